package tests

import (
	"math"
	"slices"
	"sync"
	"testing"

	"loop.example/ordersthatbranch/impl"
)

// spanRows returns all spans of numbers from low up to high.
func spanRows(low int, high int) [][]int {
	var rows [][]int
	for row := range lists(2, low, high) {
		if row[0] <= row[1] {
			rows = append(rows, row)
		}
	}
	return rows
}

// broadSpans returns as many lists of n spans of numbers from 0 up to the greatest one, by a fixed short rule.
func broadSpans(many int, n int, greatest int) [][][]int {
	var all [][][]int
	state := uint32(n)
	next := func() int {
		state = state*1664525 + 1013904223
		return int(state>>8) % (greatest + 1)
	}
	for range many {
		var list [][]int
		for range n {
			a, b := next(), next()
			list = append(list, []int{min(a, b), max(a, b)})
		}
		all = append(all, list)
	}
	return all
}

// spanLists are lists of spans: all short ones of few numbers, and others of more spans and greater numbers.
var spanLists = sync.OnceValue(func() [][][]int {
	all := [][][]int{nil, {}, {{0, 0}}, {{0, 1000}}, {{1000, 1000}}}
	for _, c := range []struct{ n, greatest int }{{1, 5}, {2, 5}, {3, 3}, {4, 2}} {
		rows := spanRows(0, c.greatest)
		for chosen := range lists(c.n, 0, len(rows)-1) {
			var list [][]int
			for _, at := range chosen {
				list = append(list, slices.Clone(rows[at]))
			}
			all = append(all, list)
		}
	}
	for _, greatest := range []int{2, 4, 9, 30, 1000} {
		all = append(all, broadSpans(400, 5, greatest)...)
		all = append(all, broadSpans(400, 6, greatest)...)
	}
	return all
})

// orderOfSpans returns the order of spans, by the document's words.
func orderOfSpans(list [][]int) []int {
	r := newRelation(len(list))
	for low := range list {
		for high := range list {
			r[low][high] = list[high][0] > list[low][1]
		}
	}
	return r.sets()
}

// hasTwoPairs reports whether four items have just the relations that the second one is above the first one, and the fourth one above the third one.
func (r relation) hasTwoPairs() bool {
	return r.hasFour(relation{
		{false, true, false, false},
		{false, false, false, false},
		{false, false, false, true},
		{false, false, false, false},
	})
}

// hasThreeOne reports whether three items are one above the other, and one more has no relation with any of them.
func (r relation) hasThreeOne() bool {
	return r.hasFour(relation{
		{false, true, true, false},
		{false, false, true, false},
		{false, false, false, false},
		{false, false, false, false},
	})
}

// aboves returns the different sets of items above items, with their sizes.
func (r relation) aboves() map[int]int {
	sizes := map[int]int{}
	for item := range r {
		above := r.aboveOf(item)
		sizes[setOf(above)] = len(above)
	}
	return sizes
}

// aboveOf returns the items above the item.
func (r relation) aboveOf(item int) []int {
	var above []int
	for high, isAbove := range r[item] {
		if isAbove {
			above = append(above, high)
		}
	}
	return above
}

// turned returns the relation turned round.
func (r relation) turned() relation {
	t := newRelation(len(r))
	for a := range r {
		for b := range r {
			t[b][a] = r[a][b]
		}
	}
	return t
}

// spans returns the spans of an order without two pairs, by the document's words.
func (r relation) spans() [][]int {
	below := r.turned()
	var list [][]int
	for item := range r {
		first, last := 0, 0
		for _, size := range below.aboves() {
			if size < len(below.aboveOf(item)) {
				first++
			}
		}
		for _, size := range r.aboves() {
			if size > len(r.aboveOf(item)) {
				last++
			}
		}
		list = append(list, []int{first, last})
	}
	return list
}

// spanOrders returns those of seriesOrders for which the function holds, and fails if there are none, or no others.
func spanOrders(t *testing.T, holds func([]int) bool) [][]int {
	t.Helper()
	var all [][]int
	for _, up := range seriesOrders() {
		if holds(up) {
			all = append(all, up)
		}
	}
	if len(all) == 0 || len(all) == len(seriesOrders()) {
		t.Fatalf("%d of %d orders are asked about", len(all), len(seriesOrders()))
	}
	return all
}

// hasNoTwoPairs reports whether HasTwoPairs does not hold.
func hasNoTwoPairs(up []int) bool {
	return !impl.HasTwoPairs(up)
}

func TestSpansOrder(t *testing.T) {
	cases := []struct {
		list [][]int
		want []int
	}{
		{nil, nil},
		{[][]int{}, nil},
		{[][]int{{0, 0}}, []int{0}},
		{[][]int{{5, 7}}, []int{0}},
		{[][]int{{0, 1000}}, []int{0}},
		{[][]int{{1000, 1000}}, []int{0}},
		// Spans of one number.
		{[][]int{{3, 3}, {3, 3}}, []int{0, 0}},
		{[][]int{{3, 3}, {4, 4}}, []int{2, 0}},
		{[][]int{{4, 4}, {3, 3}}, []int{0, 1}},
		{[][]int{{0, 0}, {1000, 1000}}, []int{2, 0}},
		{[][]int{{1000, 1000}, {0, 0}, {999, 999}}, []int{0, 5, 1}},
		{[][]int{{2, 2}, {1, 3}}, []int{0, 0}},
		{[][]int{{1, 1}, {1, 3}, {3, 3}}, []int{4, 0, 0}},
		{[][]int{{0, 0}, {1, 3}, {4, 4}}, []int{6, 4, 0}},
		// Spans that touch lap; they are one behind the other from the next number on.
		{[][]int{{0, 1}, {1, 2}}, []int{0, 0}},
		{[][]int{{1, 2}, {0, 1}}, []int{0, 0}},
		{[][]int{{0, 1}, {2, 3}}, []int{2, 0}},
		{[][]int{{2, 3}, {0, 1}}, []int{0, 1}},
		{[][]int{{0, 1}, {1, 1}, {1, 2}}, []int{0, 0, 0}},
		{[][]int{{0, 1}, {1, 2}, {2, 3}}, []int{4, 0, 0}},
		{[][]int{{0, 1}, {2, 3}, {1, 2}}, []int{2, 0, 0}},
		{[][]int{{0, 999}, {999, 1000}}, []int{0, 0}},
		{[][]int{{0, 999}, {1000, 1000}}, []int{2, 0}},
		// Spans that lap, and one in another one.
		{[][]int{{0, 5}, {3, 8}}, []int{0, 0}},
		{[][]int{{0, 9}, {3, 5}}, []int{0, 0}},
		{[][]int{{0, 9}, {3, 5}, {6, 8}, {10, 12}}, []int{8, 12, 8, 0}},
		{[][]int{{1, 4}, {1, 4}, {5, 5}, {5, 5}}, []int{12, 12, 0, 0}},
		// As many spans as there may be.
		{[][]int{{0, 0}, {1, 1}, {2, 2}, {3, 3}, {4, 4}, {5, 5}}, []int{62, 60, 56, 48, 32, 0}},
		{[][]int{{5, 5}, {4, 4}, {3, 3}, {2, 2}, {1, 1}, {0, 0}}, []int{0, 1, 3, 7, 15, 31}},
		{[][]int{{0, 1}, {1, 2}, {2, 3}, {3, 4}, {4, 5}, {5, 6}}, []int{60, 56, 48, 32, 0, 0}},
		{[][]int{{0, 1000}, {0, 1000}, {0, 1000}, {0, 1000}, {0, 1000}, {0, 1000}}, make([]int, 6)},
		{[][]int{{1000, 1000}, {0, 0}, {0, 1000}, {500, 500}, {0, 499}, {501, 1000}}, []int{0, 41, 0, 33, 41, 0}},
	}
	for _, c := range cases {
		if up, ok := impl.SpansOrder(c.list); !ok || !same(up, c.want) {
			t.Errorf("SpansOrder(%v) = %v, %v, not %v", c.list, up, ok, c.want)
		}
	}
}

func TestSpansOrderByItsWords(t *testing.T) {
	for _, list := range spanLists() {
		up, ok := impl.SpansOrder(list)
		if want := orderOfSpans(list); !ok || !same(up, want) || !impl.ValidOrder(up) {
			t.Fatalf("SpansOrder(%v) = %v, %v, not %v", list, up, ok, want)
		}
	}
}

// badSpans are rows that are no spans.
func badSpans() [][]int {
	return [][]int{
		nil, {}, {0}, {5}, {0, 1, 2}, {0, 0, 0}, {1, 2, 3, 4},
		{1, 0}, {2, 0}, {1000, 999}, {1000, 0},
		{-1, 0}, {-1, -1}, {-2, -1}, {-1, 1000}, {-1000, 5},
		{0, 1001}, {1000, 1001}, {1001, 1001}, {1001, 1002}, {-1, 1001}, {1001, 0},
		{0, math.MaxInt}, {math.MinInt, 0}, {math.MinInt, math.MaxInt}, {math.MaxInt, math.MinInt},
		{math.MaxInt, math.MaxInt}, {math.MinInt, math.MinInt}, {0, 1 << 32}, {1 << 32, 1 << 32},
	}
}

func checkNoSpans(t *testing.T, list [][]int) {
	t.Helper()
	if up, ok := impl.SpansOrder(list); ok || len(up) != 0 {
		t.Errorf("SpansOrder(%v) = %v, %v", list, up, ok)
	}
}

func TestRowsThatAreNoSpans(t *testing.T) {
	for _, bad := range badSpans() {
		checkNoSpans(t, [][]int{bad})
		checkNoSpans(t, [][]int{bad, bad})
		for n := range 6 {
			list := slices.Repeat([][]int{{0, 1}}, n)
			for at := range n + 1 {
				checkNoSpans(t, slices.Insert(slices.Clone(list), at, bad))
			}
		}
	}
}

func TestTooManySpans(t *testing.T) {
	for _, n := range []int{7, 8, 12, 64, 65, 1000} {
		checkNoSpans(t, slices.Repeat([][]int{{0, 0}}, n))
		checkNoSpans(t, slices.Repeat([][]int{{0, 1000}}, n))
		checkNoSpans(t, slices.Repeat([][]int{{1, 0}}, n))
		checkNoSpans(t, make([][]int, n))
		var behind [][]int
		for at := range n {
			behind = append(behind, []int{at, at})
		}
		checkNoSpans(t, behind)
	}
}

func TestHasTwoPairsAndHasThreeOne(t *testing.T) {
	cases := []struct {
		up       []int
		twoPairs bool
		threeOne bool
	}{
		{nil, false, false},
		{[]int{}, false, false},
		{[]int{0}, false, false},
		{[]int{2, 0}, false, false},
		{[]int{6, 4, 0}, false, false},
		{[]int{2, 0, 0}, false, false},
		{[]int{0, 0, 0, 0}, false, false},
		{[]int{14, 12, 8, 0}, false, false},
		// Two pairs, told in other orders too.
		{[]int{2, 0, 8, 0}, true, false},
		{[]int{4, 8, 0, 0}, true, false},
		{[]int{0, 4, 0, 1}, true, false},
		{[]int{0, 1, 0, 4}, true, false},
		// One relation less, one more, and pairs with one item in common.
		{[]int{2, 0, 0, 0}, false, false},
		{[]int{2, 0, 10, 0}, false, false},
		{[]int{10, 0, 10, 0}, false, false},
		{[]int{14, 0, 8, 0}, false, false},
		{[]int{6, 0, 0, 0}, false, false},
		{[]int{2, 0, 2, 0}, false, false},
		{[]int{14, 8, 8, 0}, false, false},
		// Three and one, told in other orders too.
		{[]int{6, 4, 0, 0}, false, true},
		{[]int{0, 12, 8, 0}, false, true},
		{[]int{0, 0, 3, 1}, false, false},
		{[]int{0, 0, 9, 1}, false, true},
		{[]int{0, 5, 1, 0}, false, true},
		// One more relation of the one, with the top, the middle, or the lowest one.
		{[]int{6, 4, 0, 4}, false, false},
		{[]int{14, 4, 0, 0}, false, false},
		{[]int{6, 4, 0, 6}, false, false},
		{[]int{14, 12, 0, 0}, false, false},
		{[]int{6, 4, 0, 7}, false, false},
		{[]int{14, 12, 8, 0}, false, false},
		// Both, and neither of them, of more items.
		{[]int{6, 4, 0, 16, 0}, true, true},
		{[]int{6, 4, 0, 48, 32, 0}, true, true},
		{[]int{6, 4, 0, 0, 0, 0}, false, true},
		{[]int{2, 0, 8, 0, 32, 0}, true, false},
		{[]int{2, 0, 8, 0, 0}, true, false},
		{[]int{18, 16, 24, 16, 0}, true, false},
		{[]int{30, 4, 0, 16, 0}, true, false},
		{[]int{30, 12, 8, 0, 0}, false, true},
		{[]int{30, 20, 16, 16, 0}, false, false},
		{[]int{30, 16, 16, 16, 0}, false, false},
		{[]int{62, 60, 56, 48, 32, 0}, false, false},
		{[]int{0, 1, 3, 7, 15, 31}, false, false},
		{[]int{56, 56, 56, 0, 0, 0}, false, false},
		{[]int{48, 40, 24, 0, 0, 0}, true, false},
		{[]int{62, 52, 32, 48, 32, 0}, false, false},
		{[]int{24, 16, 8, 0, 0, 0}, true, false},
		{make([]int, 6), false, false},
	}
	for _, c := range cases {
		if !impl.ValidOrder(c.up) {
			t.Errorf("%v is no order", c.up)
		}
		if got := impl.HasTwoPairs(c.up); got != c.twoPairs {
			t.Errorf("HasTwoPairs(%v) = %v", c.up, got)
		}
		if got := impl.HasThreeOne(c.up); got != c.threeOne {
			t.Errorf("HasThreeOne(%v) = %v", c.up, got)
		}
	}
}

func TestHasTwoPairsAndHasThreeOneByTheirWords(t *testing.T) {
	for _, up := range seriesOrders() {
		above := relationOf(up)
		if got := impl.HasTwoPairs(up); got != above.hasTwoPairs() {
			t.Fatalf("HasTwoPairs(%v) = %v", up, got)
		}
		if got := impl.HasThreeOne(up); got != above.hasThreeOne() {
			t.Fatalf("HasThreeOne(%v) = %v", up, got)
		}
	}
}

// There are known to be so many orders without two pairs, and so many of them without three and one.
func TestOrdersWithoutTwoPairsCounts(t *testing.T) {
	known := []struct{ spans, even int }{{1, 1}, {1, 1}, {3, 3}, {19, 19}, {207, 183}, {3451, 2371}}
	for n, want := range known {
		all := ordersOfFive()
		if n < 5 {
			all = ordersOf(n)
		}
		spans, even := 0, 0
		for _, up := range all {
			if impl.HasTwoPairs(up) {
				continue
			}
			spans++
			if !impl.HasThreeOne(up) {
				even++
			}
		}
		if spans != want.spans || even != want.even {
			t.Errorf("of %d items %d orders are without two pairs, and %d without both", n, spans, even)
		}
	}
}

func TestSpansOf(t *testing.T) {
	cases := []struct {
		up   []int
		want [][]int
	}{
		{nil, nil},
		{[]int{}, nil},
		{[]int{0}, [][]int{{0, 0}}},
		{[]int{0, 0}, [][]int{{0, 0}, {0, 0}}},
		{[]int{2, 0}, [][]int{{0, 0}, {1, 1}}},
		{[]int{0, 1}, [][]int{{1, 1}, {0, 0}}},
		{[]int{6, 4, 0}, [][]int{{0, 0}, {1, 1}, {2, 2}}},
		{[]int{0, 5, 1}, [][]int{{2, 2}, {0, 0}, {1, 1}}},
		{[]int{6, 0, 0}, [][]int{{0, 0}, {1, 1}, {1, 1}}},
		{[]int{4, 4, 0}, [][]int{{0, 0}, {0, 0}, {1, 1}}},
		{[]int{2, 0, 0}, [][]int{{0, 0}, {1, 1}, {0, 1}}},
		{[]int{0, 0, 2}, [][]int{{0, 1}, {1, 1}, {0, 0}}},
		{[]int{2, 0, 10, 0}, [][]int{{0, 1}, {2, 2}, {0, 0}, {1, 2}}},
		{[]int{14, 8, 8, 0}, [][]int{{0, 0}, {1, 1}, {1, 1}, {2, 2}}},
		{[]int{6, 4, 0, 0}, [][]int{{0, 0}, {1, 1}, {2, 2}, {0, 2}}},
		{[]int{14, 4, 0, 0}, [][]int{{0, 0}, {1, 1}, {2, 2}, {1, 2}}},
		{[]int{6, 4, 0, 4}, [][]int{{0, 0}, {1, 1}, {2, 2}, {0, 1}}},
		{[]int{30, 16, 16, 16, 0}, [][]int{{0, 0}, {1, 1}, {1, 1}, {1, 1}, {2, 2}}},
		{[]int{56, 56, 56, 0, 0, 0}, [][]int{{0, 0}, {0, 0}, {0, 0}, {1, 1}, {1, 1}, {1, 1}}},
		{[]int{62, 60, 56, 48, 32, 0}, [][]int{{0, 0}, {1, 1}, {2, 2}, {3, 3}, {4, 4}, {5, 5}}},
		{[]int{0, 1, 3, 7, 15, 31}, [][]int{{5, 5}, {4, 4}, {3, 3}, {2, 2}, {1, 1}, {0, 0}}},
		{[]int{60, 56, 48, 32, 0, 0}, [][]int{{0, 0}, {0, 1}, {1, 2}, {2, 3}, {3, 4}, {4, 4}}},
		{make([]int, 6), [][]int{{0, 0}, {0, 0}, {0, 0}, {0, 0}, {0, 0}, {0, 0}}},
	}
	for _, c := range cases {
		if list, ok := impl.SpansOf(c.up); !ok || !sameRows(list, c.want) {
			t.Errorf("SpansOf(%v) = %v, %v, not %v", c.up, list, ok, c.want)
		}
	}
}

func TestSpansOfByItsWords(t *testing.T) {
	for _, up := range seriesOrders() {
		above := relationOf(up)
		if above.hasTwoPairs() {
			checkNoSpansOf(t, up)
			continue
		}
		if list, ok := impl.SpansOf(up); !ok || !sameRows(list, above.spans()) {
			t.Fatalf("SpansOf(%v) = %v, %v, not %v", up, list, ok, above.spans())
		}
	}
}

func checkNoSpansOf(t *testing.T, up []int) {
	t.Helper()
	if list, ok := impl.SpansOf(up); ok || len(list) != 0 {
		t.Fatalf("SpansOf(%v) = %v, %v", up, list, ok)
	}
}

func TestCountUpsAndCountDowns(t *testing.T) {
	cases := []struct {
		up         []int
		ups, downs int
	}{
		{nil, 0, 0},
		{[]int{}, 0, 0},
		{[]int{0}, 1, 1},
		{[]int{0, 0}, 1, 1},
		{[]int{2, 0}, 2, 2},
		{[]int{0, 1}, 2, 2},
		{[]int{6, 4, 0}, 3, 3},
		{[]int{6, 0, 0}, 2, 2},
		{[]int{4, 4, 0}, 2, 2},
		{[]int{2, 0, 10, 0}, 3, 3},
		{[]int{14, 8, 8, 0}, 3, 3},
		{[]int{30, 16, 16, 16, 0}, 3, 3},
		{[]int{62, 60, 56, 48, 32, 0}, 6, 6},
		{make([]int, 6), 1, 1},
		// With two pairs, different sets may have one size, and there may be more of the one than of the other ones.
		{[]int{2, 0, 8, 0}, 3, 3},
		{[]int{2, 0, 8, 0, 32, 0}, 4, 4},
		{[]int{2, 0, 8, 0, 10}, 4, 3},
		{[]int{18, 0, 24, 0, 0}, 3, 4},
		{[]int{8, 16, 8, 0, 0}, 3, 3},
		{[]int{8, 16, 8, 0, 0, 16}, 3, 3},
		{[]int{48, 40, 24, 0, 0, 0}, 4, 4},
		{[]int{40, 48, 56, 0, 0, 0}, 4, 4},
		{[]int{8, 16, 24, 0, 0, 0}, 4, 3},
	}
	for _, c := range cases {
		if !impl.ValidOrder(c.up) {
			t.Errorf("%v is no order", c.up)
		}
		if got := impl.CountUps(c.up); got != c.ups {
			t.Errorf("CountUps(%v) = %d, not %d", c.up, got, c.ups)
		}
		if got := impl.CountDowns(c.up); got != c.downs {
			t.Errorf("CountDowns(%v) = %d, not %d", c.up, got, c.downs)
		}
	}
}

func TestCountUpsAndCountDownsByTheirWords(t *testing.T) {
	for _, up := range seriesOrders() {
		above := relationOf(up)
		if got, want := impl.CountUps(up), len(above.aboves()); got != want {
			t.Fatalf("CountUps(%v) = %d, not %d", up, got, want)
		}
		if got, want := impl.CountDowns(up), len(above.turned().aboves()); got != want {
			t.Fatalf("CountDowns(%v) = %d, not %d", up, got, want)
		}
	}
}

// Promise 48.
func TestSpansHaveNoTwoPairs(t *testing.T) {
	for _, list := range spanLists() {
		up, ok := impl.SpansOrder(list)
		if !ok || impl.HasTwoPairs(up) {
			t.Fatalf("SpansOrder(%v) = %v, %v, with two pairs: %v", list, up, ok, impl.HasTwoPairs(up))
		}
		spans, isThere := impl.SpansOf(up)
		again, isOrder := impl.SpansOrder(spans)
		if !isThere || !isOrder || !same(again, up) {
			t.Fatalf("SpansOf(%v) = %v, %v, of which SpansOrder = %v, %v", up, spans, isThere, again, isOrder)
		}
	}
}

// Promise 49.
func TestTwoPairsAreNoSpans(t *testing.T) {
	for _, up := range spanOrders(t, impl.HasTwoPairs) {
		checkNoSpansOf(t, up)
		if !impl.HasTwoPairs(impl.DualOf(up)) || len(up) < 4 || impl.FewestChains(up) < 2 {
			t.Fatalf("HasTwoPairs(%v) holds, %v turned round, with %d chains", up, impl.HasTwoPairs(impl.DualOf(up)), impl.FewestChains(up))
		}
	}
}

// Promise 50.
func TestThreeAndOneGoBothWays(t *testing.T) {
	for _, up := range spanOrders(t, impl.HasThreeOne) {
		if !impl.HasThreeOne(impl.DualOf(up)) || impl.LongestChain(up) < 3 || impl.WidestApart(up) < 2 {
			t.Fatalf("HasThreeOne(%v) holds, %v turned round, with %d in a chain and %d apart", up, impl.HasThreeOne(impl.DualOf(up)), impl.LongestChain(up), impl.WidestApart(up))
		}
	}
}

// Promise 51.
func TestSpansTellTheOrder(t *testing.T) {
	for _, up := range spanOrders(t, hasNoTwoPairs) {
		list, ok := impl.SpansOf(up)
		again, isOrder := impl.SpansOrder(list)
		if !ok || !isOrder || !same(again, up) {
			t.Fatalf("SpansOf(%v) = %v, %v, of which SpansOrder = %v, %v", up, list, ok, again, isOrder)
		}
		ups, downs := impl.CountUps(up), impl.CountDowns(up)
		for _, row := range list {
			if slices.Max(row) >= ups {
				t.Fatalf("SpansOf(%v) has %v, and CountUps is %d", up, row, ups)
			}
		}
		if ups != downs {
			t.Fatalf("CountUps(%v) = %d, CountDowns = %d", up, ups, downs)
		}
	}
}

// Promises 52 and 53.
func TestWhatIsAboveAndBelowTurnsRound(t *testing.T) {
	differ := 0
	for _, up := range seriesOrders() {
		ups, downs, dual := impl.CountUps(up), impl.CountDowns(up), impl.DualOf(up)
		if ups != impl.CountDowns(dual) || downs != impl.CountUps(dual) {
			t.Fatalf("CountUps, CountDowns(%v) = %d, %d, but %d, %d turned round", up, ups, downs, impl.CountUps(dual), impl.CountDowns(dual))
		}
		if ups == downs {
			continue
		}
		differ++
		if !impl.HasTwoPairs(up) {
			t.Fatalf("CountUps, CountDowns(%v) = %d, %d without two pairs", up, ups, downs)
		}
	}
	if differ == 0 {
		t.Error("no order has more of the one than of the other ones")
	}
}

func TestBadOrdersHaveFixedResultsOfSpans(t *testing.T) {
	for _, up := range badOrders() {
		checkNoOrderOfSpans(t, up)
	}
}

// Lists that would have two pairs, three and one, or spans, if they were orders.
func TestListsThatAreNearlyOrdersOfSpans(t *testing.T) {
	for _, up := range [][]int{{2, 0, 8, 16}, {2, 0, 8, -8}, {2, 0, 24, 0}, {2, 0, 8, 8}, {2, 0, 8, 0, 0, 0, 0}, {6, 4, 0, 8}, {6, 4, 0, 16}, {2, 4, 0, 0}, {6, 4, 0, 0, 0, 0, 0}, {-2, 0}, {1, 0}, make([]int, 7)} {
		checkNoOrderOfSpans(t, up)
	}
}

func checkNoOrderOfSpans(t *testing.T, up []int) {
	t.Helper()
	checkNoSpansOf(t, up)
	if impl.HasTwoPairs(up) || impl.HasThreeOne(up) {
		t.Errorf("HasTwoPairs, HasThreeOne(%v) = %v, %v", up, impl.HasTwoPairs(up), impl.HasThreeOne(up))
	}
	if impl.CountUps(up) != -1 || impl.CountDowns(up) != -1 {
		t.Errorf("CountUps, CountDowns(%v) = %d, %d", up, impl.CountUps(up), impl.CountDowns(up))
	}
}

func TestListsAreNotWrittenIntoBySpans(t *testing.T) {
	for _, up := range append(shapedOrders(), badOrders()...) {
		list := roomy(up)
		impl.HasTwoPairs(list)
		impl.HasThreeOne(list)
		impl.SpansOf(list)
		impl.CountUps(list)
		impl.CountDowns(list)
		if !roomIsKept(list, up) {
			t.Fatalf("%v is %v after the calls", up, list)
		}
	}
}

func TestRowsAreNotWrittenIntoBySpans(t *testing.T) {
	all := slices.Clone(spanLists())
	for _, bad := range badSpans() {
		all = append(all, [][]int{bad}, [][]int{{0, 1}, bad}, [][]int{bad, {0, 1}})
	}
	all = append(all, slices.Repeat([][]int{{1, 2}, {0, 0}}, 4))
	for _, list := range all {
		spare := []int{mark, 0}
		rows := make([][]int, 0, len(list)+1)
		for _, row := range list {
			rows = append(rows, roomy(row))
		}
		room := append(rows, spare)
		impl.SpansOrder(rows)
		if !sameRows(rows, list) || !same(room[len(list)], []int{mark, 0}) {
			t.Fatalf("the rows %v are %v after the call", list, room)
		}
		for i, row := range list {
			if !roomIsKept(rows[i], row) {
				t.Fatalf("%v of %v is %v after the call", row, list, rows[i])
			}
		}
	}
}

func TestSpansOrderSharesNoMemory(t *testing.T) {
	for _, list := range spanLists() {
		want, rows := orderOfSpans(list), cloneRows(list)
		got, _ := impl.SpansOrder(rows)
		for _, row := range rows {
			spoil(row)
		}
		if !same(got, want) {
			t.Fatalf("the order of %v changes with the rows", list)
		}
		rows = cloneRows(list)
		spoil(got)
		if again, ok := impl.SpansOrder(rows); !sameRows(rows, list) || !ok || !same(again, want) {
			t.Fatalf("the rows %v, or a later order of them, change with the result", list)
		}
	}
}

func TestSpansShareNoMemory(t *testing.T) {
	spansOf := func(up []int) [][]int {
		list, _ := impl.SpansOf(up)
		return list
	}
	for _, up := range goodOrders() {
		checkRowsShareNoMemory(t, "SpansOf", spansOf, up)
	}
}
