package tests

import (
	"cmp"
	"math"
	"slices"
	"testing"

	"loop.example/ordersthatbranch/impl"
)

func TestMaxItems(t *testing.T) {
	if impl.MaxItems != 6 {
		t.Errorf("MaxItems = %d", impl.MaxItems)
	}
}

func TestValidOrderOfGoodLists(t *testing.T) {
	if !impl.ValidOrder(nil) || !impl.ValidOrder([]int{}) {
		t.Error("no items are no order")
	}
	for _, up := range goodOrders() {
		if !impl.ValidOrder(up) {
			t.Errorf("ValidOrder(%v) does not hold", up)
		}
	}
}

func TestValidOrderOfBadLists(t *testing.T) {
	for _, up := range badOrders() {
		if impl.ValidOrder(up) {
			t.Errorf("ValidOrder(%v) holds", up)
		}
	}
}

// The lists also have sets one below and some above those that there are.
func TestValidOrderOfAllShortLists(t *testing.T) {
	for n := range 4 {
		for up := range lists(n, -1, power(n)+1) {
			inside := n == 0 || slices.Min(up) >= 0 && slices.Max(up) < power(n)
			want := inside && relationOf(up).isOrder()
			if impl.ValidOrder(up) != want {
				t.Fatalf("ValidOrder(%v) = %v", up, !want)
			}
		}
	}
}

// There are known to be so many orders of so many items.
func TestValidOrderCounts(t *testing.T) {
	for n, want := range []int{1, 1, 3, 19, 219} {
		count := 0
		for up := range lists(n, 0, power(n)-1) {
			if impl.ValidOrder(up) {
				count++
			}
		}
		if count != want {
			t.Errorf("%d orders of %d items, not %d", count, n, want)
		}
	}
}

func TestOrderOfNoItems(t *testing.T) {
	for _, pairs := range [][][]int{nil, {}} {
		if up, ok := impl.OrderOf(0, pairs); !ok || len(up) != 0 {
			t.Errorf("OrderOf(0, %v) = %v, %v", pairs, up, ok)
		}
	}
	checkNoOrder(t, 0, [][]int{{0, 0}})
	checkNoOrder(t, 0, [][]int{{0, 1}})
	checkNoOrder(t, 0, [][]int{{}})
}

func TestOrderOfNoPairs(t *testing.T) {
	for n := range impl.MaxItems + 1 {
		if up, ok := impl.OrderOf(n, nil); !ok || !same(up, make([]int, n)) {
			t.Errorf("OrderOf(%d, nil) = %v, %v", n, up, ok)
		}
	}
}

func TestOrderOfPairs(t *testing.T) {
	cases := []struct {
		n     int
		pairs [][]int
		want  []int
	}{
		{2, [][]int{{0, 1}}, []int{2, 0}},
		{2, [][]int{{1, 0}}, []int{0, 1}},
		{3, [][]int{{0, 1}, {1, 2}}, []int{6, 4, 0}},
		{3, [][]int{{1, 2}, {0, 1}}, []int{6, 4, 0}},
		{3, [][]int{{2, 1}, {1, 0}}, []int{0, 1, 3}},
		{4, [][]int{{0, 1}, {2, 1}, {2, 3}}, []int{2, 0, 10, 0}},
		{4, [][]int{{0, 1}, {0, 2}, {1, 3}, {2, 3}}, []int{14, 8, 8, 0}},
		{6, [][]int{{4, 5}, {3, 4}, {2, 3}, {1, 2}, {0, 1}}, []int{62, 60, 56, 48, 32, 0}},
		{6, [][]int{{5, 0}, {0, 3}, {3, 1}, {1, 4}, {4, 2}}, []int{30, 20, 0, 22, 4, 31}},
	}
	for _, c := range cases {
		if up, ok := impl.OrderOf(c.n, c.pairs); !ok || !same(up, c.want) {
			t.Errorf("OrderOf(%d, %v) = %v, %v, not %v", c.n, c.pairs, up, ok, c.want)
		}
	}
}

func TestOrderOfPairsToldTwice(t *testing.T) {
	cases := [][][]int{
		{{0, 1}, {0, 1}, {1, 2}},
		{{0, 1}, {1, 2}, {0, 1}, {1, 2}},
		{{0, 1}, {1, 2}, {0, 2}},
		{{0, 2}, {0, 1}, {0, 2}, {1, 2}, {0, 2}},
	}
	for _, pairs := range cases {
		if up, ok := impl.OrderOf(3, pairs); !ok || !same(up, []int{6, 4, 0}) {
			t.Errorf("OrderOf(3, %v) = %v, %v", pairs, up, ok)
		}
	}
}

func TestOrderOfItemsAboveThemselves(t *testing.T) {
	checkNoOrder(t, 1, [][]int{{0, 0}})
	checkNoOrder(t, 2, [][]int{{1, 1}})
	checkNoOrder(t, 6, [][]int{{0, 1}, {5, 5}})
	checkNoOrder(t, 2, [][]int{{0, 1}, {1, 0}})
	checkNoOrder(t, 3, [][]int{{0, 1}, {1, 2}, {2, 0}})
	checkNoOrder(t, 4, [][]int{{3, 2}, {2, 1}, {0, 3}, {1, 3}})
	checkNoOrder(t, 6, [][]int{{5, 0}, {0, 3}, {3, 1}, {1, 4}, {4, 2}, {2, 5}})
}

func TestOrderOfPairsThatAreNone(t *testing.T) {
	bad := [][]int{
		nil, {}, {0}, {0, 1, 2}, {0, 1, 1}, {0, 1, 0, 1},
		{-1, 0}, {0, -1}, {3, 0}, {0, 3}, {0, 6}, {64, 0}, {0, 64},
		{math.MaxInt, 0}, {0, math.MaxInt}, {math.MinInt, 0}, {0, math.MinInt},
	}
	for _, pair := range bad {
		checkNoOrder(t, 3, [][]int{pair})
		checkNoOrder(t, 3, [][]int{{0, 1}, pair})
		checkNoOrder(t, 3, [][]int{pair, {0, 1}})
		checkNoOrder(t, 3, [][]int{{0, 1}, {1, 0}, pair})
	}
}

func TestOrderOfOtherNumbers(t *testing.T) {
	for _, n := range []int{-1, -6, 7, 8, 64, 1 << 40, math.MaxInt, math.MinInt} {
		checkNoOrder(t, n, nil)
		checkNoOrder(t, n, [][]int{{0, 1}})
	}
}

func checkNoOrder(t *testing.T, n int, pairs [][]int) {
	t.Helper()
	if up, ok := impl.OrderOf(n, pairs); ok || len(up) != 0 {
		t.Errorf("OrderOf(%d, %v) = %v, %v", n, pairs, up, ok)
	}
}

// Promise 2, over all sets of pairs of up to three items, cycles among them.
func TestWhatFollowsIsThereAndNothingElse(t *testing.T) {
	for n := range 4 {
		for sets := range lists(n, 0, power(n)-1) {
			told := relationOf(sets)
			pairs := told.pairs()
			follows := told.following()
			if !follows.isOrder() {
				checkNoOrder(t, n, pairs)
				continue
			}
			checkFollows(t, n, pairs, follows.sets())
		}
	}
}

// Promise 2, over more items, where only some of the pairs of an order are told.
func TestWhatFollowsFromSomePairs(t *testing.T) {
	for at, up := range goodOrders() {
		told := relationOf(up)
		for a := range told {
			for b := range told {
				told[a][b] = told[a][b] && (a+b+at)%3 > 0
			}
		}
		pairs := told.pairs()
		slices.Reverse(pairs)
		checkFollows(t, len(up), pairs, told.following().sets())
	}
}

// pairs returns the pairs of the relation, by the first and then by the second one.
func (r relation) pairs() [][]int {
	var pairs [][]int
	for a := range r {
		for b := range r {
			if r[a][b] {
				pairs = append(pairs, []int{a, b})
			}
		}
	}
	return pairs
}

func checkFollows(t *testing.T, n int, pairs [][]int, want []int) {
	t.Helper()
	up, ok := impl.OrderOf(n, pairs)
	if !ok || !same(up, want) {
		t.Fatalf("OrderOf(%d, %v) = %v, %v, not %v", n, pairs, up, ok, want)
	}
	for _, pair := range pairs {
		if !relationOf(up)[pair[0]][pair[1]] {
			t.Errorf("OrderOf(%d, %v) = %v is without %v", n, pairs, up, pair)
		}
	}
	if again, ok := impl.OrderOf(n, impl.CoversOf(up)); !ok || !same(again, up) {
		t.Errorf("OrderOf the covers of %v = %v, %v", up, again, ok)
	}
}

// Promise 4.
func TestNextOnesMakeTheOrder(t *testing.T) {
	for _, up := range goodOrders() {
		covers := impl.CoversOf(up)
		if again, ok := impl.OrderOf(len(up), covers); !ok || !same(again, up) {
			t.Fatalf("OrderOf the covers %v of %v = %v, %v", covers, up, again, ok)
		}
		if turned := turnedRound(covers); !sameRows(impl.CoversOf(impl.DualOf(up)), turned) {
			t.Fatalf("covers of the dual of %v are %v, not %v", up, impl.CoversOf(impl.DualOf(up)), turned)
		}
	}
}

// turnedRound returns the pairs the other way round, by the first and then by the second one.
func turnedRound(pairs [][]int) [][]int {
	turned := [][]int{}
	for _, pair := range pairs {
		turned = append(turned, []int{pair[1], pair[0]})
	}
	slices.SortFunc(turned, func(a []int, b []int) int {
		return cmp.Or(cmp.Compare(a[0], b[0]), cmp.Compare(a[1], b[1]))
	})
	return turned
}

func TestCoversOf(t *testing.T) {
	cases := []struct {
		up   []int
		want [][]int
	}{
		{nil, nil},
		{[]int{0}, nil},
		{[]int{0, 0, 0}, nil},
		{[]int{6, 4, 0}, [][]int{{0, 1}, {1, 2}}},
		{[]int{0, 1, 3}, [][]int{{1, 0}, {2, 1}}},
		{[]int{6, 0, 0}, [][]int{{0, 1}, {0, 2}}},
		{[]int{2, 0, 10, 0}, [][]int{{0, 1}, {2, 1}, {2, 3}}},
		{[]int{14, 8, 8, 0}, [][]int{{0, 1}, {0, 2}, {1, 3}, {2, 3}}},
		{[]int{62, 60, 56, 48, 32, 0}, [][]int{{0, 1}, {1, 2}, {2, 3}, {3, 4}, {4, 5}}},
		{[]int{0, 57, 59, 32, 40, 0}, [][]int{{1, 0}, {1, 4}, {2, 1}, {3, 5}, {4, 3}}},
	}
	for _, c := range cases {
		if got := impl.CoversOf(c.up); !sameRows(got, c.want) {
			t.Errorf("CoversOf(%v) = %v, not %v", c.up, got, c.want)
		}
	}
}

func TestCoversOfByTheirWords(t *testing.T) {
	for _, up := range goodOrders() {
		above := relationOf(up)
		next := newRelation(len(up))
		for a := range up {
			for b := range up {
				between := false
				for c := range up {
					between = between || above[a][c] && above[c][b]
				}
				next[a][b] = above[a][b] && !between
			}
		}
		if got := impl.CoversOf(up); !sameRows(got, next.pairs()) {
			t.Fatalf("CoversOf(%v) = %v, not %v", up, got, next.pairs())
		}
	}
}

func TestDualOf(t *testing.T) {
	for _, up := range goodOrders() {
		above := relationOf(up)
		below := newRelation(len(up))
		for a := range up {
			for b := range up {
				below[b][a] = above[a][b]
			}
		}
		dual := impl.DualOf(up)
		if !same(dual, below.sets()) || !impl.ValidOrder(dual) || !same(impl.DualOf(dual), up) {
			t.Fatalf("DualOf(%v) = %v, not %v", up, dual, below.sets())
		}
	}
}

func TestHeightsOf(t *testing.T) {
	cases := []struct{ up, want []int }{
		{nil, nil},
		{[]int{0}, []int{0}},
		{[]int{0, 0}, []int{0, 0}},
		{[]int{6, 4, 0}, []int{0, 1, 2}},
		{[]int{0, 1, 3}, []int{2, 1, 0}},
		{[]int{14, 8, 8, 0}, []int{0, 1, 1, 2}},
		{[]int{2, 0, 10, 0}, []int{0, 1, 0, 1}},
		{[]int{0, 1, 3, 7, 15, 31}, []int{5, 4, 3, 2, 1, 0}},
		{[]int{62, 60, 56, 48, 32, 0}, []int{0, 1, 2, 3, 4, 5}},
		{[]int{30, 20, 0, 22, 4, 31}, []int{1, 3, 5, 2, 4, 0}},
		{[]int{12, 8, 8, 0}, []int{0, 0, 1, 2}},
	}
	for _, c := range cases {
		if got := impl.HeightsOf(c.up); !same(got, c.want) {
			t.Errorf("HeightsOf(%v) = %v, not %v", c.up, got, c.want)
		}
	}
}

func TestHeightsOfByTheirWords(t *testing.T) {
	for _, up := range goodOrders() {
		above := relationOf(up)
		heights := impl.HeightsOf(up)
		if len(heights) != len(up) {
			t.Fatalf("HeightsOf(%v) = %v", up, heights)
		}
		for item := range up {
			if want := above.mostBelow(item); heights[item] != want {
				t.Fatalf("HeightsOf(%v) = %v, not %d at %d", up, heights, want, item)
			}
		}
	}
}

// mostBelow returns the greatest size of a set of items below the item that are one above the other.
func (r relation) mostBelow(item int) int {
	most := 0
	for s := range power(len(r)) {
		chain := membersOf(s)
		fits := true
		for _, a := range chain {
			fits = fits && r[a][item]
			for _, b := range chain {
				fits = fits && (a == b || r[a][b] || r[b][a])
			}
		}
		if fits {
			most = max(most, len(chain))
		}
	}
	return most
}

// membersOf returns the items of a set, from 0 up.
func membersOf(s int) []int {
	var members []int
	for item := 0; s > 0; item++ {
		if s%2 == 1 {
			members = append(members, item)
		}
		s /= 2
	}
	return members
}

func TestTopsOf(t *testing.T) {
	cases := []struct {
		up      []int
		s, want int
	}{
		{nil, 0, 0},
		{[]int{0}, 0, 0},
		{[]int{0}, 1, 1},
		{[]int{14, 8, 8, 0}, 0, 0},
		{[]int{14, 8, 8, 0}, 7, 6},
		{[]int{14, 8, 8, 0}, 15, 8},
		{[]int{14, 8, 8, 0}, 9, 8},
		{[]int{6, 4, 0}, 3, 2},
		{[]int{6, 4, 0}, 5, 4},
		{[]int{2, 0, 10, 0}, 15, 10},
		{[]int{2, 0, 10, 0}, 9, 9},
		{[]int{0, 0, 0, 0, 0, 0}, 63, 63},
	}
	for _, c := range cases {
		if got := impl.TopsOf(c.up, c.s); got != c.want {
			t.Errorf("TopsOf(%v, %d) = %d, not %d", c.up, c.s, got, c.want)
		}
	}
}

func TestTopsOfByTheirWords(t *testing.T) {
	for _, up := range goodOrders() {
		above := relationOf(up)
		for s := range power(len(up)) {
			want := 0
			for _, a := range membersOf(s) {
				if !slices.ContainsFunc(membersOf(s), func(b int) bool { return above[a][b] }) {
					want += power(a)
				}
			}
			if got := impl.TopsOf(up, s); got != want {
				t.Fatalf("TopsOf(%v, %d) = %d, not %d", up, s, got, want)
			}
		}
	}
}

func TestTopsOfBadSets(t *testing.T) {
	for _, up := range goodOrders() {
		for _, s := range badSets(len(up)) {
			if got := impl.TopsOf(up, s); got != -1 {
				t.Fatalf("TopsOf(%v, %d) = %d", up, s, got)
			}
		}
	}
}

func TestCountPairs(t *testing.T) {
	for _, up := range goodOrders() {
		want := len(relationOf(up).pairs())
		if got := impl.CountPairs(up); got != want || impl.CountPairs(impl.DualOf(up)) != want {
			t.Fatalf("CountPairs(%v) = %d, not %d", up, got, want)
		}
	}
	if got := impl.CountPairs([]int{62, 60, 56, 48, 32, 0}); got != 15 {
		t.Errorf("CountPairs of a chain of six = %d", got)
	}
}

func TestBadOrdersHaveFixedResults(t *testing.T) {
	for _, up := range badOrders() {
		if got := impl.DualOf(up); len(got) != 0 {
			t.Errorf("DualOf(%v) = %v", up, got)
		}
		if got := impl.CoversOf(up); len(got) != 0 {
			t.Errorf("CoversOf(%v) = %v", up, got)
		}
		if got := impl.HeightsOf(up); len(got) != 0 {
			t.Errorf("HeightsOf(%v) = %v", up, got)
		}
		if got := impl.CountPairs(up); got != -1 {
			t.Errorf("CountPairs(%v) = %d", up, got)
		}
		for _, s := range append(badSets(len(up)%7), 0, 1, 3) {
			if got := impl.TopsOf(up, s); got != -1 {
				t.Errorf("TopsOf(%v, %d) = %d", up, s, got)
			}
		}
	}
}

// callAll calls each function of the chapter that takes a list of sets.
func callAll(up []int) {
	impl.ValidOrder(up)
	impl.DualOf(up)
	impl.CoversOf(up)
	impl.HeightsOf(up)
	impl.TopsOf(up, power(len(up)%7)-1)
	impl.CountPairs(up)
}

func TestListsAreNotWrittenInto(t *testing.T) {
	for _, up := range append(goodOrders(), badOrders()...) {
		list := roomy(up)
		callAll(list)
		if !roomIsKept(list, up) {
			t.Fatalf("%v is %v after the calls", up, list)
		}
	}
}

func TestPairsAreNotWrittenInto(t *testing.T) {
	cases := [][][]int{
		{{0, 1}, {1, 2}, {0, 1}},
		{{2, 1}, {1, 0}},
		{{0, 1}, {1, 0}},
		{{1, 1}},
		{{0, 1}, {0, 3}},
		{{0, 1}, {0, 1, 2}, nil},
	}
	for _, pairs := range cases {
		rows := make([][]int, len(pairs))
		for i, pair := range pairs {
			rows[i] = roomy(pair)
		}
		impl.OrderOf(3, rows)
		for i, pair := range pairs {
			if !roomIsKept(rows[i], pair) {
				t.Errorf("%v of %v is %v after the call", pair, pairs, rows[i])
			}
		}
	}
}

func TestListsShareNoMemory(t *testing.T) {
	for _, up := range goodOrders() {
		checkSharesNoMemory(t, "DualOf", impl.DualOf, up)
		checkSharesNoMemory(t, "HeightsOf", impl.HeightsOf, up)
	}
}

func TestOrderOfSharesNoMemory(t *testing.T) {
	for _, up := range goodOrders() {
		pairs := relationOf(up).pairs()
		rows := cloneRows(pairs)
		got, _ := impl.OrderOf(len(up), rows)
		for _, row := range rows {
			spoil(row)
		}
		if !same(got, up) {
			t.Fatalf("the order of %v changes with the pairs", pairs)
		}
		rows = cloneRows(pairs)
		spoil(got)
		if !sameRows(rows, pairs) || !same(orderOf(len(up), rows...), up) {
			t.Fatalf("the pairs %v, or a later order of them, change with the result", pairs)
		}
	}
}

func TestCoversShareNoMemory(t *testing.T) {
	for _, up := range goodOrders() {
		checkRowsShareNoMemory(t, "CoversOf", impl.CoversOf, up)
	}
}
