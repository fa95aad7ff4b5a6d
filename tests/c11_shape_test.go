package tests

import (
	"math"
	"slices"
	"strconv"
	"strings"
	"sync"
	"testing"

	"loop.example/ordersthatbranch/impl"
)

// keyOf returns a text that tells a list.
func keyOf(list []int) string {
	var words []string
	for _, number := range list {
		words = append(words, strconv.Itoa(number))
	}
	return strings.Join(words, " ")
}

// numberingsOf returns, for each order that a numbering of the order makes, the first such numbering.
func numberingsOf(up []int) map[string][]int {
	firsts := map[string][]int{}
	for _, to := range allArrangements()[len(up)] {
		key := keyOf(renumbered(up, to))
		if _, isThere := firsts[key]; !isThere {
			firsts[key] = to
		}
	}
	return firsts
}

// canonOf returns the first order of all numberings, by the document's words.
func canonOf(up []int) []int {
	var all [][]int
	for _, to := range allArrangements()[len(up)] {
		all = append(all, renumbered(up, to))
	}
	return slices.MinFunc(all, slices.Compare)
}

// selfMapsOf returns how many numberings leave the order as it is, by the document's words.
func selfMapsOf(up []int) int {
	count := 0
	for _, to := range allArrangements()[len(up)] {
		if same(renumbered(up, to), up) {
			count++
		}
	}
	return count
}

// countNumberings returns how many numberings n items have.
func countNumberings(n int) int {
	count := 1
	for k := range n {
		count *= k + 1
	}
	return count
}

// turnedBack returns the numbering that leads back.
func turnedBack(to []int) []int {
	back := make([]int, len(to))
	for item, number := range to {
		back[number] = item
	}
	return back
}

// triedOrders are all orders of up to five items, of which all numberings are tried.
var triedOrders = sync.OnceValue(func() [][]int {
	var all [][]int
	for n := range 5 {
		all = append(all, ordersOf(n)...)
	}
	return append(all, ordersOfFive()...)
})

// shapesOf returns orders of n items, one of each shape.
func shapesOf(n int) [][]int {
	var all [][]int
	for _, up := range upwardOrders(n) {
		all = append(all, canonOf(up))
	}
	slices.SortFunc(all, slices.Compare)
	return slices.CompactFunc(all, same)
}

// shapesOfFive are orders of five items, one of each shape.
var shapesOfFive = sync.OnceValue(func() [][]int {
	return shapesOf(5)
})

// numberedOrder is an order and a numbering of it.
type numberedOrder struct{ up, to []int }

// numberedOrders are all numberings of all orders of up to four items, of all shapes of five, and of some of six.
var numberedOrders = sync.OnceValue(func() []numberedOrder {
	var all []numberedOrder
	add := func(orders [][]int) {
		for _, up := range orders {
			for _, to := range allArrangements()[len(up)] {
				all = append(all, numberedOrder{up, to})
			}
		}
	}
	for n := range 5 {
		add(ordersOf(n))
	}
	add(upwardOrders(5))
	add(namedOrders())
	add(broadOrders(50))
	return all
})

// ordersToMap are pairs of orders: all of up to four items each, and of five items each shape with
// all that its numberings make, and with each other shape.
func ordersToMap() []pair {
	var small [][]int
	for n := range 5 {
		small = append(small, ordersOf(n)...)
	}
	var all []pair
	for _, a := range small {
		for _, b := range small {
			all = append(all, pair{a, b})
		}
	}
	for _, a := range shapesOfFive() {
		for _, to := range allArrangements()[5] {
			b := renumbered(a, to)
			all = append(all, pair{a, b}, pair{b, a}, pair{mixed(b), b})
		}
		for _, b := range shapesOfFive() {
			all = append(all, pair{a, b}, pair{a, mixed(b)})
		}
	}
	return all
}

func TestMaxShapes(t *testing.T) {
	if impl.MaxShapes != 4 || impl.MaxTried != 5 || impl.MaxItems != 6 {
		t.Errorf("MaxShapes, MaxTried, MaxItems = %d, %d, %d", impl.MaxShapes, impl.MaxTried, impl.MaxItems)
	}
}

func TestThereAre63ShapesOfFiveItems(t *testing.T) {
	if got := len(shapesOfFive()); got != 63 {
		t.Errorf("there are %d shapes of five items", got)
	}
}

func TestRenumbered(t *testing.T) {
	fork, diamond, zigzag := []int{6, 0, 0}, []int{14, 8, 8, 0}, []int{2, 0, 10, 0}
	cases := []struct{ up, to, want []int }{
		{nil, nil, nil},
		{[]int{}, []int{}, nil},
		{[]int{}, nil, nil},
		{nil, []int{}, nil},
		{[]int{0}, []int{0}, []int{0}},
		{[]int{2, 0}, []int{0, 1}, []int{2, 0}},
		{[]int{2, 0}, []int{1, 0}, []int{0, 1}},
		{[]int{0, 1}, []int{1, 0}, []int{2, 0}},
		// No item is above another one.
		{[]int{0, 0}, []int{1, 0}, []int{0, 0}},
		{make([]int, 6), []int{3, 0, 5, 1, 2, 4}, make([]int, 6)},
		// A chain, where the list and the one that leads back make different orders.
		{[]int{6, 4, 0}, []int{0, 1, 2}, []int{6, 4, 0}},
		{[]int{6, 4, 0}, []int{1, 2, 0}, []int{0, 5, 1}},
		{[]int{6, 4, 0}, []int{2, 0, 1}, []int{2, 0, 3}},
		{[]int{6, 4, 0}, []int{2, 1, 0}, []int{0, 1, 3}},
		{fork, []int{2, 0, 1}, []int{0, 0, 3}},
		{fork, []int{1, 2, 0}, []int{0, 5, 0}},
		{fork, []int{0, 2, 1}, fork},
		{diamond, []int{0, 2, 1, 3}, diamond},
		{diamond, []int{3, 1, 2, 0}, []int{0, 1, 1, 7}},
		{diamond, []int{1, 0, 3, 2}, []int{4, 13, 0, 4}},
		{zigzag, []int{2, 0, 3, 1}, []int{0, 0, 1, 3}},
		{zigzag, []int{1, 2, 3, 0}, []int{0, 4, 0, 5}},
		{[]int{62, 60, 56, 48, 32, 0}, []int{5, 4, 3, 2, 1, 0}, []int{0, 1, 3, 7, 15, 31}},
		{[]int{62, 60, 56, 48, 32, 0}, []int{1, 2, 3, 4, 5, 0}, []int{0, 61, 57, 49, 33, 1}},
		{[]int{48, 40, 24, 0, 0, 0}, []int{5, 3, 1, 4, 2, 0}, []int{0, 20, 0, 17, 0, 5}},
	}
	for _, c := range cases {
		if got, ok := impl.Renumbered(c.up, c.to); !ok || !same(got, c.want) {
			t.Errorf("Renumbered(%v, %v) = %v, %v, not %v", c.up, c.to, got, ok, c.want)
		}
	}
}

func TestRenumberedByItsWords(t *testing.T) {
	for _, c := range numberedOrders() {
		if got, ok := impl.Renumbered(c.up, c.to); !ok || !same(got, renumbered(c.up, c.to)) {
			t.Fatalf("Renumbered(%v, %v) = %v, %v, not %v", c.up, c.to, got, ok, renumbered(c.up, c.to))
		}
	}
}

func checkNotRenumbered(t *testing.T, up []int, to []int) {
	t.Helper()
	if got, ok := impl.Renumbered(up, to); ok || len(got) != 0 {
		t.Fatalf("Renumbered(%v, %v) = %v, %v", up, to, got, ok)
	}
}

func TestRenumberedByListsThatAreNoNumberings(t *testing.T) {
	diamond, apart := []int{14, 8, 8, 0}, make([]int, 6)
	cases := []struct{ up, to []int }{
		// Of another length.
		{nil, []int{0}},
		{[]int{}, []int{0}},
		{[]int{0}, nil},
		{[]int{0}, []int{}},
		{[]int{0}, []int{0, 1}},
		{[]int{0, 0}, []int{0}},
		{diamond, nil},
		{diamond, []int{0, 1, 2}},
		{diamond, []int{0, 1, 2, 3, 4}},
		{apart, []int{0, 1, 2, 3, 4}},
		{apart, []int{0, 1, 2, 3, 4, 5, 6}},
		{apart, make([]int, 1000)},
		{apart, slices.Repeat([]int{0, 1, 2, 3, 4, 5}, 100)},
		// With a number twice.
		{[]int{0}, []int{0, 0}},
		{[]int{0, 0}, []int{0, 0}},
		{[]int{0, 0}, []int{1, 1}},
		{[]int{6, 0, 0}, []int{0, 0, 1}},
		{diamond, []int{0, 1, 1, 3}},
		{diamond, []int{3, 2, 1, 3}},
		{diamond, []int{0, 1, 2, 3, 3}},
		{apart, []int{0, 1, 2, 3, 4, 4}},
		{apart, make([]int, 6)},
		// With a number that is not there.
		{[]int{0}, []int{1}},
		{[]int{0}, []int{-1}},
		{[]int{2, 0}, []int{1, 2}},
		{[]int{2, 0}, []int{-1, 0}},
		{diamond, []int{1, 2, 3, 4}},
		{diamond, []int{0, 1, 2, 4}},
		{diamond, []int{0, 1, 2, 67}},
		{diamond, []int{-4, -3, -2, -1}},
		{apart, []int{1, 2, 3, 4, 5, 6}},
		{apart, []int{6, 5, 4, 3, 2, 1}},
	}
	for _, c := range cases {
		checkNotRenumbered(t, c.up, c.to)
	}
}

// The lists also have numbers one below and one above those that there are.
func TestRenumberedByAllShortLists(t *testing.T) {
	for n := range 5 {
		for _, up := range ordersOf(n) {
			for to := range lists(n, -1, n) {
				if !newRelation(n).isLine(to) {
					checkNotRenumbered(t, up, to)
				}
			}
		}
	}
}

func TestRenumberedByNumberingsWithOneNumberChangedOrMore(t *testing.T) {
	for _, up := range lineOrders() {
		all := allArrangements()[len(up)]
		for _, to := range [][]int{all[0], all[len(all)/2], all[len(all)-1]} {
			for _, bad := range append(badItems(len(up)), to...) {
				checkNotRenumbered(t, up, append(slices.Clone(to), bad))
				checkNotRenumbered(t, up, append([]int{bad}, to...))
				for at := range to {
					list := slices.Clone(to)
					if list[at] != bad {
						list[at] = bad
						checkNotRenumbered(t, up, list)
					}
				}
			}
			for at := range to {
				checkNotRenumbered(t, up, slices.Delete(slices.Clone(to), at, at+1))
			}
		}
	}
}

func TestMapOrder(t *testing.T) {
	fork, diamond, zigzag, pairs := []int{6, 0, 0}, []int{14, 8, 8, 0}, []int{2, 0, 10, 0}, []int{2, 0, 8, 0}
	cases := []struct{ a, b, want []int }{
		{nil, nil, nil},
		{[]int{}, []int{}, nil},
		{nil, []int{}, nil},
		{[]int{0}, []int{0}, []int{0}},
		{[]int{2, 0}, []int{2, 0}, []int{0, 1}},
		{[]int{2, 0}, []int{0, 1}, []int{1, 0}},
		{[]int{0, 1}, []int{2, 0}, []int{1, 0}},
		// The first one of more numberings.
		{[]int{0, 0}, []int{0, 0}, []int{0, 1}},
		{make([]int, 5), make([]int, 5), []int{0, 1, 2, 3, 4}},
		{fork, fork, []int{0, 1, 2}},
		{fork, []int{0, 0, 3}, []int{2, 0, 1}},
		{[]int{0, 0, 3}, fork, []int{1, 2, 0}},
		{diamond, diamond, []int{0, 1, 2, 3}},
		{diamond, []int{0, 1, 1, 7}, []int{3, 1, 2, 0}},
		{diamond, []int{4, 13, 0, 4}, []int{1, 0, 3, 2}},
		{pairs, []int{8, 4, 0, 0}, []int{0, 3, 1, 2}},
		{[]int{8, 4, 0, 0}, pairs, []int{0, 2, 3, 1}},
		{[]int{16, 0, 0, 0, 0}, []int{0, 0, 0, 2, 0}, []int{3, 0, 2, 4, 1}},
		// The only one, from a to b and not back.
		{[]int{6, 4, 0}, []int{0, 5, 1}, []int{1, 2, 0}},
		{[]int{0, 5, 1}, []int{6, 4, 0}, []int{2, 0, 1}},
		{zigzag, zigzag, []int{0, 1, 2, 3}},
		{zigzag, []int{0, 0, 1, 3}, []int{2, 0, 3, 1}},
		{zigzag, []int{10, 0, 2, 0}, []int{2, 1, 0, 3}},
		{[]int{30, 28, 24, 16, 0}, []int{0, 1, 3, 7, 15}, []int{4, 3, 2, 1, 0}},
	}
	for _, c := range cases {
		if got, ok := impl.MapOrder(c.a, c.b); !ok || !same(got, c.want) {
			t.Errorf("MapOrder(%v, %v) = %v, %v, not %v", c.a, c.b, got, ok, c.want)
		}
	}
}

func checkNoMap(t *testing.T, a []int, b []int) {
	t.Helper()
	if got, ok := impl.MapOrder(a, b); ok || len(got) != 0 {
		t.Fatalf("MapOrder(%v, %v) = %v, %v", a, b, got, ok)
	}
}

func TestMapOrderOfDifferentShapes(t *testing.T) {
	cases := []struct{ a, b []int }{
		{[]int{2, 0}, []int{0, 0}},
		{[]int{6, 0, 0}, []int{6, 4, 0}},
		// Turned round.
		{[]int{6, 0, 0}, []int{4, 4, 0}},
		{[]int{14, 0, 0, 0}, []int{8, 8, 8, 0}},
		// With as many pairs, and even as many items at each height.
		{[]int{6, 0, 0, 0}, []int{2, 0, 8, 0}},
		{[]int{2, 0, 10, 0}, []int{14, 0, 0, 0}},
		{[]int{2, 0, 8, 0, 0}, []int{6, 0, 0, 0, 0}},
		// Of another number of items.
		{nil, []int{0}},
		{[]int{0}, nil},
		{[]int{0}, []int{0, 0}},
		{[]int{0, 0, 0}, []int{0, 0}},
		{[]int{2, 0}, []int{2, 0, 0}},
		{[]int{2, 0, 0}, []int{2, 0}},
		{make([]int, 5), make([]int, 4)},
		{make([]int, 4), make([]int, 5)},
		{make([]int, 5), make([]int, 6)},
		{make([]int, 6), make([]int, 5)},
	}
	for _, c := range cases {
		checkNoMap(t, c.a, c.b)
		checkNoMap(t, c.b, c.a)
	}
}

func TestMapOrderByItsWords(t *testing.T) {
	known := map[string]map[string][]int{}
	for _, p := range ordersToMap() {
		firsts := known[keyOf(p.a)]
		if firsts == nil {
			firsts = numberingsOf(p.a)
			known[keyOf(p.a)] = firsts
		}
		want, isThere := firsts[keyOf(p.b)]
		if !isThere || len(p.a) != len(p.b) {
			checkNoMap(t, p.a, p.b)
		} else if got, ok := impl.MapOrder(p.a, p.b); !ok || !same(got, want) {
			t.Fatalf("MapOrder(%v, %v) = %v, %v, not %v", p.a, p.b, got, ok, want)
		}
	}
}

func TestCanonOfAndSelfMaps(t *testing.T) {
	cases := []struct {
		up, canon []int
		selfMaps  int
	}{
		{nil, nil, 1},
		{[]int{}, nil, 1},
		{[]int{0}, []int{0}, 1},
		{[]int{2, 0}, []int{0, 1}, 1},
		{[]int{0, 1}, []int{0, 1}, 1},
		// No item is above another one: all numberings leave it as it is.
		{[]int{0, 0}, []int{0, 0}, 2},
		{make([]int, 3), make([]int, 3), 6},
		{make([]int, 4), make([]int, 4), 24},
		{make([]int, 5), make([]int, 5), 120},
		// Chains have one self map alone.
		{[]int{6, 4, 0}, []int{0, 1, 3}, 1},
		{[]int{0, 5, 1}, []int{0, 1, 3}, 1},
		{[]int{30, 28, 24, 16, 0}, []int{0, 1, 3, 7, 15}, 1},
		{[]int{0, 1, 3, 7, 15}, []int{0, 1, 3, 7, 15}, 1},
		{[]int{2, 0, 10, 0}, []int{0, 0, 1, 3}, 1},
		{[]int{2, 0, 0}, []int{0, 0, 1}, 1},
		{[]int{6, 4, 0, 0}, []int{0, 0, 1, 5}, 1},
		{[]int{6, 0, 0}, []int{0, 0, 3}, 2},
		{[]int{0, 5, 0}, []int{0, 0, 3}, 2},
		{[]int{4, 4, 0}, []int{0, 1, 1}, 2},
		{[]int{14, 8, 8, 0}, []int{0, 1, 1, 7}, 2},
		{[]int{2, 0, 8, 0}, []int{0, 0, 1, 2}, 2},
		{[]int{8, 4, 0, 0}, []int{0, 0, 1, 2}, 2},
		{[]int{2, 0, 8, 0, 0}, []int{0, 0, 0, 1, 2}, 2},
		{[]int{12, 12, 0, 0}, []int{0, 0, 3, 3}, 4},
		{[]int{30, 16, 16, 16, 0}, []int{0, 1, 1, 1, 15}, 6},
		{[]int{28, 28, 0, 0, 0}, []int{0, 0, 0, 7, 7}, 12},
		{[]int{30, 0, 0, 0, 0}, []int{0, 0, 0, 0, 15}, 24},
		{[]int{16, 16, 16, 16, 0}, []int{0, 1, 1, 1, 1}, 24},
		// One item more than all numberings are tried of.
		{make([]int, 6), nil, -1},
		{[]int{62, 60, 56, 48, 32, 0}, nil, -1},
		{[]int{0, 1, 3, 7, 15, 31}, nil, -1},
		{[]int{56, 56, 56, 0, 0, 0}, nil, -1},
		{[]int{48, 40, 24, 0, 0, 0}, nil, -1},
	}
	for _, c := range cases {
		if canon, count := impl.CanonOf(c.up), impl.SelfMaps(c.up); !same(canon, c.canon) || count != c.selfMaps {
			t.Errorf("CanonOf and SelfMaps of %v = %v and %d, not %v and %d", c.up, canon, count, c.canon, c.selfMaps)
		}
	}
}

func TestCanonOfAndSelfMapsByTheirWords(t *testing.T) {
	for _, up := range triedOrders() {
		if got, want := impl.CanonOf(up), canonOf(up); !same(got, want) {
			t.Fatalf("CanonOf(%v) = %v, not %v", up, got, want)
		}
		if got, want := impl.SelfMaps(up), selfMapsOf(up); got != want {
			t.Fatalf("SelfMaps(%v) = %d, not %d", up, got, want)
		}
	}
}

// checkAllIsTooMuch checks the results for an order of one item more than all numberings are tried of.
func checkAllIsTooMuch(t *testing.T, up []int) {
	t.Helper()
	checkNoMap(t, up, up)
	if canon, count := impl.CanonOf(up), impl.SelfMaps(up); len(canon) != 0 || count != -1 {
		t.Fatalf("CanonOf and SelfMaps of %v = %v and %d", up, canon, count)
	}
}

func TestSixItemsAreRenumberedButNotTried(t *testing.T) {
	for _, up := range shapedOrders() {
		if len(up) != 6 {
			continue
		}
		if got, ok := impl.Renumbered(up, []int{1, 2, 3, 4, 5, 0}); !ok || !same(got, renumbered(up, []int{1, 2, 3, 4, 5, 0})) {
			t.Fatalf("Renumbered(%v) = %v, %v", up, got, ok)
		}
		checkAllIsTooMuch(t, up)
	}
}

func TestShapesOf(t *testing.T) {
	cases := [][][]int{
		{{}},
		{{0}},
		{{0, 0}, {0, 1}},
		{{0, 0, 0}, {0, 0, 1}, {0, 0, 3}, {0, 1, 1}, {0, 1, 3}},
		{
			{0, 0, 0, 0}, {0, 0, 0, 1}, {0, 0, 0, 3}, {0, 0, 0, 7},
			{0, 0, 1, 1}, {0, 0, 1, 2}, {0, 0, 1, 3}, {0, 0, 1, 5}, {0, 0, 1, 7},
			{0, 0, 3, 3}, {0, 0, 3, 7},
			{0, 1, 1, 1}, {0, 1, 1, 3}, {0, 1, 1, 7}, {0, 1, 3, 3}, {0, 1, 3, 7},
		},
	}
	for n, want := range cases {
		if got := impl.ShapesOf(n); !sameRows(got, want) {
			t.Errorf("ShapesOf(%d) = %v, not %v", n, got, want)
		}
	}
}

func TestShapesOfByItsWords(t *testing.T) {
	for n := range 5 {
		var want [][]int
		for _, up := range ordersOf(n) {
			if same(canonOf(up), up) {
				want = append(want, up)
			}
		}
		if got := impl.ShapesOf(n); !sameRows(got, want) {
			t.Errorf("ShapesOf(%d) = %v, not %v", n, got, want)
		}
	}
}

func TestCountOrders(t *testing.T) {
	for n, want := range []int{1, 1, 3, 19, 219} {
		if got := impl.CountOrders(n); got != want || got != len(ordersOf(n)) {
			t.Errorf("CountOrders(%d) = %d, not %d", n, got, want)
		}
	}
}

func TestShapesOfOtherNumbers(t *testing.T) {
	for _, n := range []int{-1, -2, -4, -5, 5, 6, 7, 8, 63, 64, 1 << 16, 1 << 32, math.MaxInt, math.MinInt} {
		if got := impl.ShapesOf(n); len(got) != 0 {
			t.Errorf("ShapesOf(%d) = %v", n, got)
		}
		if got := impl.CountOrders(n); got != -1 {
			t.Errorf("CountOrders(%d) = %d", n, got)
		}
	}
}

// Promise 63.
func TestNewNumbersChangeNothingElse(t *testing.T) {
	for _, c := range numberedOrders() {
		made, ok := impl.Renumbered(c.up, c.to)
		if !ok || !impl.ValidOrder(made) || len(made) != len(c.up) {
			t.Fatalf("Renumbered(%v, %v) = %v, %v", c.up, c.to, made, ok)
		}
		if a, b := impl.CountPairs(c.up), impl.CountPairs(made); a != b {
			t.Fatalf("CountPairs(%v) = %d, CountPairs(%v) = %d", c.up, a, made, b)
		}
		if a, b := impl.CountLines(c.up), impl.CountLines(made); a != b {
			t.Fatalf("CountLines(%v) = %d, CountLines(%v) = %d", c.up, a, made, b)
		}
		if a, b := impl.CountIdeals(c.up), impl.CountIdeals(made); a != b {
			t.Fatalf("CountIdeals(%v) = %d, CountIdeals(%v) = %d", c.up, a, made, b)
		}
		if again, ok := impl.Renumbered(made, turnedBack(c.to)); !ok || !same(again, c.up) {
			t.Fatalf("Renumbered(%v, %v) = %v, but %v, %v turned back", c.up, c.to, made, again, ok)
		}
	}
}

// Promise 64, and that where there is no map both have not the same CanonOf.
func TestMapsMakeOneTheOther(t *testing.T) {
	with, without := 0, 0
	for _, p := range ordersToMap() {
		to, ok := impl.MapOrder(p.a, p.b)
		canonA, canonB := impl.CanonOf(p.a), impl.CanonOf(p.b)
		if ok != same(canonA, canonB) {
			t.Fatalf("MapOrder(%v, %v) = %v, %v, CanonOf = %v and %v", p.a, p.b, to, ok, canonA, canonB)
		}
		if !ok {
			without++
			continue
		}
		with++
		if made, ok := impl.Renumbered(p.a, to); !ok || !same(made, p.b) {
			t.Fatalf("MapOrder(%v, %v) = %v, with which Renumbered = %v, %v", p.a, p.b, to, made, ok)
		}
	}
	if with == 0 || without == 0 {
		t.Errorf("there are maps for %d pairs of orders, and none for %d", with, without)
	}
}

// Promise 65.
func TestTheFirstShapeIsOneOfAll(t *testing.T) {
	for _, up := range triedOrders() {
		canon := impl.CanonOf(up)
		if again := impl.CanonOf(canon); len(canon) != len(up) || !same(again, canon) {
			t.Fatalf("CanonOf(%v) = %v, CanonOf it = %v", up, canon, again)
		}
		if to, ok := impl.MapOrder(up, canon); !ok || len(to) != len(up) {
			t.Fatalf("MapOrder(%v, %v) = %v, %v", up, canon, to, ok)
		}
		if a, b := impl.SelfMaps(up), impl.SelfMaps(canon); a != b {
			t.Fatalf("SelfMaps(%v) = %d, SelfMaps(%v) = %d", up, a, canon, b)
		}
	}
}

// Promise 66.
func TestSelfMapsPartAllNumberings(t *testing.T) {
	for _, up := range triedOrders() {
		count := impl.SelfMaps(up)
		if count < 1 || countNumberings(len(up))%count != 0 {
			t.Fatalf("SelfMaps(%v) = %d", up, count)
		}
		if dual := impl.SelfMaps(impl.DualOf(up)); dual != count {
			t.Fatalf("SelfMaps(%v) = %d, but %d turned round", up, count, dual)
		}
	}
}

// numberedShapes returns how many numberings there are, divided by SelfMaps, over all ShapesOf n.
func numberedShapes(t *testing.T, n int) int {
	t.Helper()
	sum := 0
	for _, up := range impl.ShapesOf(n) {
		count := impl.SelfMaps(up)
		if count < 1 || countNumberings(n)%count != 0 {
			t.Fatalf("SelfMaps(%v) = %d", up, count)
		}
		sum += countNumberings(n) / count
	}
	return sum
}

// Promise 67.
func TestShapesPartAllOrders(t *testing.T) {
	for n := range impl.MaxShapes + 1 {
		shapes := impl.ShapesOf(n)
		for _, up := range shapes {
			if canon := impl.CanonOf(up); len(up) != n || !impl.ValidOrder(up) || !same(canon, up) {
				t.Fatalf("%v is of ShapesOf(%d), CanonOf it = %v", up, n, canon)
			}
		}
		if sum, count := numberedShapes(t, n), impl.CountOrders(n); sum != count {
			t.Fatalf("ShapesOf(%d) = %v, of %d orders, CountOrders = %d", n, shapes, sum, count)
		}
		if !slices.IsSortedFunc(shapes, slices.Compare) || len(slices.CompactFunc(cloneRows(shapes), same)) != len(shapes) {
			t.Fatalf("ShapesOf(%d) = %v does not ascend", n, shapes)
		}
		for _, up := range ordersOf(n) {
			isShape := func(shape []int) bool { return same(shape, impl.CanonOf(up)) }
			if !slices.ContainsFunc(shapes, isShape) {
				t.Fatalf("CanonOf(%v) = %v is not of ShapesOf(%d) = %v", up, impl.CanonOf(up), n, shapes)
			}
		}
	}
}

// Promise 68.
func TestOrdersAreShapesWithNumbers(t *testing.T) {
	for n := range impl.MaxShapes + 1 {
		if count, sum := impl.CountOrders(n), numberedShapes(t, n); count != sum || count < 1 {
			t.Fatalf("CountOrders(%d) = %d, but shapes with numbers are %d", n, count, sum)
		}
	}
}

func checkNoOrderOfShapes(t *testing.T, up []int) {
	t.Helper()
	forwards := allNumbers(len(up))
	backwards := slices.Clone(forwards)
	slices.Reverse(backwards)
	for _, to := range [][]int{nil, {}, {0}, {1, 0}, {-1}, forwards, backwards} {
		checkNotRenumbered(t, up, to)
	}
	for _, other := range [][]int{nil, {}, {0}, {2, 0}, {6, 4, 0}, {14, 8, 8, 0}, make([]int, len(up)), up} {
		checkNoMap(t, up, other)
		checkNoMap(t, other, up)
	}
	if got := impl.CanonOf(up); len(got) != 0 {
		t.Errorf("CanonOf(%v) = %v", up, got)
	}
	if got := impl.SelfMaps(up); got != -1 {
		t.Errorf("SelfMaps(%v) = %d", up, got)
	}
}

// allNumbers returns the numbers from 0 up to less than n.
func allNumbers(n int) []int {
	numbers := make([]int, n)
	for i := range numbers {
		numbers[i] = i
	}
	return numbers
}

func TestBadOrdersHaveFixedResultsOfShapes(t *testing.T) {
	for _, up := range badOrders() {
		checkNoOrderOfShapes(t, up)
		for _, other := range badOrders() {
			checkNoMap(t, up, other)
		}
	}
}

// Lists that would have a shape if they were orders, and orders of one item more than there may be.
func TestListsThatAreNearlyOrdersOfShapes(t *testing.T) {
	for _, up := range [][]int{{2, 4, 0}, {0, 4, 1}, {2, 1, 0}, {6, 5, 3}, {6, 0, 8}, {6, 0, -1}, {-2, 0}, {1, 0}, {14, 8, 8, 16}, {2, 4, 8, 0}, {30, 28, 24, 0, 1}, {62, 60, 56, 48, 32, 64}, {62, 60, 56, 48, 32, 0, 0}, {126, 124, 120, 112, 96, 64, 0}, {0, 1, 3, 7, 15, 31, 63}, make([]int, 7)} {
		checkNoOrderOfShapes(t, up)
	}
}

func TestListsAreNotWrittenIntoByShapes(t *testing.T) {
	few := [][]int{nil, {0}, {0, 1}, {2, 0, 1}, {2, 0, 8, 0}, {0, 0, 0, 0, 0}, {-1, 9}}
	for _, up := range append(lineOrders(), badOrders()...) {
		numbers := allNumbers(len(up))
		slices.Reverse(numbers)
		for _, other := range append(few, numbers, up) {
			a, b := roomy(up), roomy(other)
			impl.Renumbered(a, b)
			impl.Renumbered(a, a)
			impl.MapOrder(a, b)
			impl.MapOrder(b, a)
			impl.MapOrder(a, a)
			impl.CanonOf(a)
			impl.SelfMaps(a)
			if !roomIsKept(a, up) || !roomIsKept(b, other) {
				t.Fatalf("%v and %v are %v and %v after the calls", up, other, a, b)
			}
		}
	}
}

// checkBothShareNoMemory checks that a result for two lists shares no memory with either one.
func checkBothShareNoMemory(t *testing.T, name string, f func([]int, []int) ([]int, bool), a []int, b []int) {
	t.Helper()
	checkSharesNoMemory(t, name+" with the first list", func(list []int) []int {
		got, _ := f(list, b)
		return got
	}, a)
	checkSharesNoMemory(t, name+" with the second list", func(list []int) []int {
		got, _ := f(a, list)
		return got
	}, b)
}

func TestListsOfShapesShareNoMemory(t *testing.T) {
	for _, up := range lineOrders() {
		forwards := allNumbers(len(up))
		backwards := slices.Clone(forwards)
		slices.Reverse(backwards)
		for _, to := range [][]int{forwards, backwards} {
			checkBothShareNoMemory(t, "Renumbered", impl.Renumbered, up, to)
			checkBothShareNoMemory(t, "MapOrder", impl.MapOrder, up, renumbered(up, to))
		}
		checkSharesNoMemory(t, "MapOrder of one list twice", func(list []int) []int {
			got, _ := impl.MapOrder(list, list)
			return got
		}, up)
		checkSharesNoMemory(t, "CanonOf", impl.CanonOf, up)
		checkSharesNoMemory(t, "CanonOf CanonOf", impl.CanonOf, impl.CanonOf(up))
	}
}

// These lists are orders and numberings, both.
func TestRenumberedByItselfSharesNoMemory(t *testing.T) {
	for _, up := range [][]int{nil, {}, {0}, {0, 1}} {
		checkSharesNoMemory(t, "Renumbered by itself", func(list []int) []int {
			got, _ := impl.Renumbered(list, list)
			return got
		}, up)
	}
}

func TestShapesShareNoMemory(t *testing.T) {
	for n := range impl.MaxShapes + 1 {
		want := cloneRows(impl.ShapesOf(n))
		got := impl.ShapesOf(n)
		for i := range got {
			spoil(got[i])
			if !sameRows(impl.ShapesOf(n), want) {
				t.Fatalf("later ShapesOf(%d) change with the row at %d", n, i)
			}
			got[i] = got[i][:n]
			copy(got[i], want[i])
			if !sameRows(got, want) {
				t.Fatalf("rows of ShapesOf(%d) change with the one at %d", n, i)
			}
		}
		rows := got[:cap(got)]
		for i := range rows {
			rows[i] = []int{mark}
		}
		if !sameRows(impl.ShapesOf(n), want) {
			t.Fatalf("later ShapesOf(%d) change with the result", n)
		}
	}
}

// A result that was kept from an earlier call would be that of the lists as they were.
func TestShapesAreOfTheListsAsTheyAre(t *testing.T) {
	up, to := []int{6, 0, 0}, []int{2, 0, 1}
	check := func(made []int, canon []int, selfMaps int) {
		t.Helper()
		if got, ok := impl.Renumbered(up, to); !ok || !same(got, made) {
			t.Errorf("Renumbered(%v, %v) = %v, %v, not %v", up, to, got, ok, made)
		}
		if got, count := impl.CanonOf(up), impl.SelfMaps(up); !same(got, canon) || count != selfMaps {
			t.Errorf("CanonOf and SelfMaps of %v = %v and %d, not %v and %d", up, got, count, canon, selfMaps)
		}
	}
	check([]int{0, 0, 3}, []int{0, 0, 3}, 2)
	copy(up, []int{6, 4, 0})
	check([]int{2, 0, 3}, []int{0, 1, 3}, 1)
	copy(to, []int{1, 2, 0})
	check([]int{0, 5, 1}, []int{0, 1, 3}, 1)
	copy(up, []int{0, 0, 0})
	check([]int{0, 0, 0}, []int{0, 0, 0}, 6)
}

func TestShapesAreToldAtTheSameTime(t *testing.T) {
	var group sync.WaitGroup
	for _, up := range append(ordersOf(3), ordersOf(4)...) {
		canon, count := canonOf(up), selfMapsOf(up)
		group.Go(func() {
			if !same(impl.CanonOf(up), canon) || impl.SelfMaps(up) != count {
				t.Errorf("CanonOf and SelfMaps of %v = %v and %d", up, impl.CanonOf(up), impl.SelfMaps(up))
			}
		})
	}
	for n, want := range []int{1, 1, 3, 19, 219} {
		for range 4 {
			group.Go(func() {
				if got := impl.CountOrders(n); got != want {
					t.Errorf("CountOrders(%d) = %d", n, got)
				}
			})
		}
	}
	group.Wait()
}
