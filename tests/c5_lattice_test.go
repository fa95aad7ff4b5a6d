package tests

import (
	"slices"
	"sync"
	"testing"

	"loop.example/ordersthatbranch/impl"
)

// upwardOrders returns all orders of n items in which only later items are above an
// item: every shape of n items is among them.
func upwardOrders(n int) [][]int {
	steps := [][]int{}
	for high := range n {
		for low := range high {
			steps = append(steps, []int{low, high})
		}
	}
	var all [][]int
	for chosen := range power(len(steps)) {
		r := newRelation(n)
		for _, at := range membersOf(chosen) {
			r[steps[at][0]][steps[at][1]] = true
		}
		if r.isOrder() {
			all = append(all, r.sets())
		}
	}
	return all
}

// renumbered returns the order with the items numbered by the list.
func renumbered(up []int, numbers []int) []int {
	above, r := relationOf(up), newRelation(len(up))
	for a := range r {
		for b := range r {
			r[numbers[a]][numbers[b]] = above[a][b]
		}
	}
	return r.sets()
}

// mixed returns an order with its items numbered in another way.
func mixed(up []int) []int {
	numbers := make([]int, len(up))
	for item := range up {
		numbers[item] = (len(up) + 2 - item) % len(up)
	}
	return renumbered(up, numbers)
}

// shapedOrders returns goodOrders, and all shapes of five and six items, each in more than one numbering.
var shapedOrders = sync.OnceValue(func() [][]int {
	all := goodOrders()
	for _, n := range []int{5, 6} {
		for _, up := range upwardOrders(n) {
			all = append(all, up, mixed(up))
		}
	}
	return all
})

// lattices returns those of shapedOrders that are lattices, by the document's words.
func lattices() [][]int {
	var all [][]int
	for _, up := range shapedOrders() {
		if relationOf(up).isLattice() {
			all = append(all, up)
		}
	}
	return all
}

// evenLattices returns those of lattices that are even, by the document's words.
func evenLattices() [][]int {
	var all [][]int
	for _, up := range lattices() {
		if relationOf(up).isEven() {
			all = append(all, up)
		}
	}
	return all
}

// isAtOrAbove reports whether the item is one of the members or above it, for each of them.
func (r relation) isAtOrAbove(item int, members []int) bool {
	for _, member := range members {
		if item != member && !r[member][item] {
			return false
		}
	}
	return true
}

// isAtOrBelow reports whether the item is one of the members or below it, for each of them.
func (r relation) isAtOrBelow(item int, members []int) bool {
	for _, member := range members {
		if item != member && !r[item][member] {
			return false
		}
	}
	return true
}

// allAtOrAbove returns all items that are at or above all members.
func (r relation) allAtOrAbove(members []int) []int {
	var found []int
	for item := range r {
		if r.isAtOrAbove(item, members) {
			found = append(found, item)
		}
	}
	return found
}

// allAtOrBelow returns all items that are at or below all members.
func (r relation) allAtOrBelow(members []int) []int {
	var found []int
	for item := range r {
		if r.isAtOrBelow(item, members) {
			found = append(found, item)
		}
	}
	return found
}

// join returns the item that is at or above both and below all others that are, or -1.
func (r relation) join(a int, b int) int {
	bounds := r.allAtOrAbove([]int{a, b})
	for _, item := range bounds {
		if r.isAtOrBelow(item, bounds) {
			return item
		}
	}
	return -1
}

// meet returns the item that is at or below both and above all others that are, or -1.
func (r relation) meet(a int, b int) int {
	bounds := r.allAtOrBelow([]int{a, b})
	for _, item := range bounds {
		if r.isAtOrAbove(item, bounds) {
			return item
		}
	}
	return -1
}

// isLattice reports whether there is an item, and no two lack a join or a meet.
func (r relation) isLattice() bool {
	for a := range r {
		for b := range r {
			if r.join(a, b) < 0 || r.meet(a, b) < 0 {
				return false
			}
		}
	}
	return len(r) > 0
}

// isEven reports whether the relation is a lattice in which meets go over joins.
func (r relation) isEven() bool {
	if !r.isLattice() {
		return false
	}
	for list := range lists(3, 0, len(r)-1) {
		a, b, c := list[0], list[1], list[2]
		if r.meet(a, r.join(b, c)) != r.join(r.meet(a, b), r.meet(a, c)) {
			return false
		}
	}
	return true
}

// nextBelow returns how many items are next below the item.
func (r relation) nextBelow(item int) int {
	count := 0
	for low := range r {
		isBetween := func(between int) bool { return r[low][between] && r[between][item] }
		if r[low][item] && !slices.ContainsFunc(r.lacked(nil), isBetween) {
			count++
		}
	}
	return count
}

// singles returns the set of the items with exactly one next below.
func (r relation) singles() int {
	var singles []int
	for item := range r {
		if r.nextBelow(item) == 1 {
			singles = append(singles, item)
		}
	}
	return setOf(singles)
}

// part returns the relation among the members alone.
func (r relation) part(members []int) []int {
	part := newRelation(len(members))
	for i, a := range members {
		for j, b := range members {
			part[i][j] = r[a][b]
		}
	}
	return part.sets()
}

// isCut reports whether the members are all at or below all of those at or above all of them.
func (r relation) isCut(members []int) bool {
	return same(r.allAtOrBelow(r.allAtOrAbove(members)), members)
}

func TestShapesThatAreAskedAbout(t *testing.T) {
	counts := []struct{ orders, lattices, even int }{{1, 0, 0}, {1, 1, 1}, {2, 1, 1}, {7, 1, 1}, {40, 2, 2}, {357, 7, 3}, {4824, 39, 9}}
	for n, want := range counts {
		got := want
		got.orders, got.lattices, got.even = 0, 0, 0
		for _, up := range upwardOrders(n) {
			got.orders++
			if impl.IsLattice(up) {
				got.lattices++
			}
			if impl.IsEven(up) {
				got.even++
			}
		}
		if got != want {
			t.Errorf("orders of %d items upward, with lattices and even ones: %v, not %v", n, got, want)
		}
	}
}

func TestJoinOfAndMeetOf(t *testing.T) {
	diamond, zigzag := []int{14, 8, 8, 0}, []int{2, 0, 10, 0}
	broad, bent := []int{30, 16, 16, 16, 0}, []int{30, 20, 16, 16, 0}
	crossed := []int{62, 56, 56, 32, 32, 0}
	cases := []struct{ up, of, want []int }{
		{[]int{0}, []int{0, 0}, []int{0, 0}},
		{[]int{0, 0}, []int{0, 0}, []int{0, 0}},
		{[]int{0, 0}, []int{0, 1}, []int{-1, -1}},
		{[]int{2, 0}, []int{0, 1}, []int{1, 0}},
		{[]int{0, 1}, []int{0, 1}, []int{0, 1}},
		{[]int{6, 0, 0}, []int{1, 2}, []int{-1, 0}},
		{[]int{4, 4, 0}, []int{0, 1}, []int{2, -1}},
		{diamond, []int{1, 2}, []int{3, 0}},
		{diamond, []int{0, 3}, []int{3, 0}},
		{diamond, []int{1, 3}, []int{3, 1}},
		{diamond, []int{2, 2}, []int{2, 2}},
		{zigzag, []int{0, 2}, []int{1, -1}},
		{zigzag, []int{1, 3}, []int{-1, 2}},
		{zigzag, []int{0, 3}, []int{-1, -1}},
		{broad, []int{1, 3}, []int{4, 0}},
		{bent, []int{1, 3}, []int{4, 0}},
		{bent, []int{2, 3}, []int{4, 0}},
		{bent, []int{1, 2}, []int{2, 1}},
		// Some are above both, or below both, but none is nearest.
		{crossed, []int{1, 2}, []int{-1, 0}},
		{crossed, []int{3, 4}, []int{5, -1}},
		{crossed, []int{1, 4}, []int{4, 1}},
		// The nearest one is numbered neither first nor last.
		{[]int{2, 0, 3, 7, 7}, []int{3, 4}, []int{2, -1}},
		{make([]int, 6), []int{5, 5}, []int{5, 5}},
		{make([]int, 6), []int{0, 5}, []int{-1, -1}},
		{[]int{62, 60, 56, 48, 32, 0}, []int{2, 5}, []int{5, 2}},
		{[]int{0, 1, 3, 7, 15, 31}, []int{2, 5}, []int{2, 5}},
	}
	for _, c := range cases {
		a, b := c.of[0], c.of[1]
		if got := []int{impl.JoinOf(c.up, a, b), impl.MeetOf(c.up, a, b)}; !same(got, c.want) {
			t.Errorf("JoinOf, MeetOf(%v, %d, %d) = %v, not %v", c.up, a, b, got, c.want)
		}
	}
}

func TestJoinOfAndMeetOfByTheirWords(t *testing.T) {
	for _, up := range shapedOrders() {
		above := relationOf(up)
		for a := range up {
			for b := range up {
				if got, want := impl.JoinOf(up, a, b), above.join(a, b); got != want {
					t.Fatalf("JoinOf(%v, %d, %d) = %d, not %d", up, a, b, got, want)
				}
				if got, want := impl.MeetOf(up, a, b), above.meet(a, b); got != want {
					t.Fatalf("MeetOf(%v, %d, %d) = %d, not %d", up, a, b, got, want)
				}
			}
		}
	}
}

func TestJoinOfAndMeetOfNumbersThatAreNoItems(t *testing.T) {
	for _, up := range goodOrders() {
		for _, bad := range badItems(len(up)) {
			checkNoBounds(t, up, bad, bad)
			for item := range 6 {
				checkNoBounds(t, up, item, bad)
				checkNoBounds(t, up, bad, item)
			}
		}
	}
	checkNoBounds(t, nil, 0, 0)
	checkNoBounds(t, []int{}, 0, 1)
	checkNoBounds(t, []int{0}, 0, 1)
	checkNoBounds(t, []int{0}, 1, 0)
}

// checkNoBounds checks that there are no joins and no meets.
func checkNoBounds(t *testing.T, up []int, a int, b int) {
	t.Helper()
	if join, meet := impl.JoinOf(up, a, b), impl.MeetOf(up, a, b); join != -1 || meet != -1 {
		t.Fatalf("JoinOf, MeetOf(%v, %d, %d) = %d, %d", up, a, b, join, meet)
	}
}

func TestIsLatticeAndIsEven(t *testing.T) {
	cases := []struct {
		up              []int
		isLattice, even bool
	}{
		{nil, false, false},
		{[]int{}, false, false},
		{[]int{0}, true, true},
		{[]int{0, 0}, false, false},
		{[]int{2, 0}, true, true},
		{[]int{0, 1}, true, true},
		{[]int{6, 4, 0}, true, true},
		{[]int{6, 0, 0}, false, false},
		{[]int{4, 4, 0}, false, false},
		{[]int{2, 0, 10, 0}, false, false},
		{[]int{2, 0, 8, 0}, false, false},
		{[]int{14, 8, 8, 0}, true, true},
		{[]int{12, 12, 0, 0}, false, false},
		// Three items apart between one below and one above.
		{[]int{30, 16, 16, 16, 0}, true, false},
		// One item beside two that are one above the other.
		{[]int{30, 20, 16, 16, 0}, true, false},
		{[]int{30, 16, 16, 20, 0}, true, false},
		{[]int{0, 1, 1, 5, 15}, true, false},
		// Two beside two, each one above the other, with one below and one above all.
		{[]int{62, 48, 32, 36, 32, 0}, true, false},
		// The pairs of an item of a chain of two and one of a chain of three.
		{[]int{62, 52, 32, 48, 32, 0}, true, true},
		// There is one below and one above all, but two have two nearest ones.
		{[]int{62, 56, 56, 32, 32, 0}, false, false},
		{[]int{62, 60, 56, 48, 32, 0}, true, true},
		{[]int{0, 1, 3, 7, 15, 31}, true, true},
		{make([]int, 6), false, false},
		{[]int{62, 32, 32, 32, 32, 0}, true, false},
		// All have joins or all have meets, but not both.
		{[]int{32, 32, 32, 32, 32, 0}, false, false},
		{[]int{62, 0, 0, 0, 0, 0}, false, false},
	}
	for _, c := range cases {
		if got := impl.IsLattice(c.up); got != c.isLattice {
			t.Errorf("IsLattice(%v) = %v", c.up, got)
		}
		if got := impl.IsEven(c.up); got != c.even {
			t.Errorf("IsEven(%v) = %v", c.up, got)
		}
	}
}

func TestIsLatticeAndIsEvenByTheirWords(t *testing.T) {
	for _, up := range shapedOrders() {
		above := relationOf(up)
		if want := above.isLattice(); impl.IsLattice(up) != want {
			t.Fatalf("IsLattice(%v) = %v", up, !want)
		}
		if want := above.isEven(); impl.IsEven(up) != want {
			t.Fatalf("IsEven(%v) = %v", up, !want)
		}
	}
}

func TestSinglesOf(t *testing.T) {
	cases := []struct {
		up   []int
		want int
	}{
		{nil, 0},
		{[]int{0}, 0},
		{[]int{0, 0}, 0},
		{[]int{2, 0}, 2},
		{[]int{0, 1}, 1},
		{[]int{6, 4, 0}, 6},
		{[]int{6, 0, 0}, 6},
		{[]int{4, 4, 0}, 0},
		{[]int{2, 0, 10, 0}, 8},
		{[]int{2, 0, 8, 0}, 10},
		{[]int{14, 8, 8, 0}, 6},
		{[]int{30, 16, 16, 16, 0}, 14},
		{[]int{30, 20, 16, 16, 0}, 14},
		{[]int{62, 60, 56, 48, 32, 0}, 62},
		{[]int{0, 1, 3, 7, 15, 31}, 31},
		{[]int{62, 0, 0, 0, 0, 0}, 62},
		{[]int{62, 56, 56, 32, 32, 0}, 6},
		{make([]int, 6), 0},
	}
	for _, c := range cases {
		if got := impl.SinglesOf(c.up); got != c.want {
			t.Errorf("SinglesOf(%v) = %d, not %d", c.up, got, c.want)
		}
	}
}

func TestSinglesOfByItsWords(t *testing.T) {
	for _, up := range shapedOrders() {
		if got, want := impl.SinglesOf(up), relationOf(up).singles(); got != want {
			t.Fatalf("SinglesOf(%v) = %d, not %d", up, got, want)
		}
	}
}

func TestPartOf(t *testing.T) {
	diamond, zigzag := []int{14, 8, 8, 0}, []int{2, 0, 10, 0}
	turned := []int{0, 1, 3, 7, 15, 31}
	cases := []struct {
		up   []int
		s    int
		want []int
	}{
		{nil, 0, nil},
		{[]int{0}, 0, nil},
		{[]int{0}, 1, []int{0}},
		{[]int{0, 0}, 2, []int{0}},
		{[]int{0, 0}, 3, []int{0, 0}},
		{diamond, 0, nil},
		{diamond, 8, []int{0}},
		{diamond, 9, []int{2, 0}},
		{diamond, 6, []int{0, 0}},
		{diamond, 7, []int{6, 0, 0}},
		{diamond, 14, []int{4, 4, 0}},
		{diamond, 11, []int{6, 4, 0}},
		{diamond, 15, diamond},
		{zigzag, 10, []int{0, 0}},
		{zigzag, 12, []int{2, 0}},
		{zigzag, 14, []int{0, 5, 0}},
		{zigzag, 13, []int{0, 4, 0}},
		{turned, 42, []int{0, 1, 3}},
		{turned, 63, turned},
		{make([]int, 6), 62, make([]int, 5)},
		{make([]int, 6), 63, make([]int, 6)},
	}
	for _, c := range cases {
		if got := impl.PartOf(c.up, c.s); !same(got, c.want) {
			t.Errorf("PartOf(%v, %d) = %v, not %v", c.up, c.s, got, c.want)
		}
	}
}

func TestPartOfByItsWords(t *testing.T) {
	for _, up := range goodOrders() {
		above := relationOf(up)
		for s := range power(len(up)) {
			if got, want := impl.PartOf(up, s), above.part(membersOf(s)); !same(got, want) {
				t.Fatalf("PartOf(%v, %d) = %v, not %v", up, s, got, want)
			}
		}
	}
}

func TestPartOfSetsWithItemsThatAreNotThere(t *testing.T) {
	for _, up := range goodOrders() {
		bad := badSets(len(up))
		for item := len(up); item < 63; item++ {
			bad = append(bad, 1<<item, 1<<item+power(len(up))-1)
		}
		for _, s := range bad {
			if got := impl.PartOf(up, s); len(got) != 0 {
				t.Fatalf("PartOf(%v, %d) = %v", up, s, got)
			}
		}
	}
}

func TestCutsOf(t *testing.T) {
	cases := []struct{ up, want []int }{
		{nil, []int{0}},
		{[]int{0}, []int{1}},
		{[]int{0, 0}, []int{0, 1, 2, 3}},
		{[]int{2, 0}, []int{1, 3}},
		{[]int{0, 1}, []int{2, 3}},
		{[]int{6, 4, 0}, []int{1, 3, 7}},
		{[]int{6, 0, 0}, []int{1, 3, 5, 7}},
		{[]int{4, 4, 0}, []int{0, 1, 2, 7}},
		{[]int{2, 0, 8, 0}, []int{0, 1, 3, 4, 12, 15}},
		{[]int{2, 0, 10, 0}, []int{0, 1, 4, 7, 12, 15}},
		{[]int{12, 12, 0, 0}, []int{0, 1, 2, 3, 7, 11, 15}},
		{[]int{14, 8, 8, 0}, []int{1, 3, 5, 15}},
		{[]int{30, 16, 16, 16, 0}, []int{1, 3, 5, 9, 31}},
		// What 1 and 2 lack a join for has a cut of its own.
		{[]int{62, 56, 56, 32, 32, 0}, []int{1, 3, 5, 7, 15, 23, 63}},
		{[]int{62, 60, 56, 48, 32, 0}, []int{1, 3, 7, 15, 31, 63}},
		{[]int{0, 1, 3, 7, 15, 31}, []int{32, 48, 56, 60, 62, 63}},
		{make([]int, 6), []int{0, 1, 2, 4, 8, 16, 32, 63}},
	}
	for _, c := range cases {
		if got := impl.CutsOf(c.up); !same(got, c.want) {
			t.Errorf("CutsOf(%v) = %v, not %v", c.up, got, c.want)
		}
	}
}

func TestCutsOfByTheirWords(t *testing.T) {
	for _, up := range shapedOrders() {
		above := relationOf(up)
		if got, want := impl.CutsOf(up), above.setsThat(above.isCut); !same(got, want) {
			t.Fatalf("CutsOf(%v) = %v, not %v", up, got, want)
		}
	}
}

// Promise 1.
func TestOrdersStayOrders(t *testing.T) {
	for _, up := range shapedOrders() {
		dual := impl.DualOf(up)
		if !impl.ValidOrder(dual) || !relationOf(dual).isOrder() || len(dual) != len(up) {
			t.Fatalf("DualOf(%v) = %v is no order of as many items", up, dual)
		}
		if len(up) == 0 {
			continue
		}
		part := impl.PartOf(up, power(len(up)-1)-1)
		if !impl.ValidOrder(part) || !relationOf(part).isOrder() || len(part) != len(up)-1 {
			t.Fatalf("PartOf(%v) all items but the last one = %v is no order of one item less", up, part)
		}
	}
}

// Promise 29.
func TestJoinsAreLeast(t *testing.T) {
	for _, up := range shapedOrders() {
		above, dual := relationOf(up), impl.DualOf(up)
		for a := range up {
			for b := range up {
				join := impl.JoinOf(up, a, b)
				if join != impl.JoinOf(up, b, a) || join != impl.MeetOf(dual, a, b) {
					t.Fatalf("JoinOf(%v, %d, %d) = %d, the other way %d, and MeetOf turned round %d", up, a, b, join, impl.JoinOf(up, b, a), impl.MeetOf(dual, a, b))
				}
				if join >= 0 && !above.isAtOrAbove(join, []int{a, b}) {
					t.Fatalf("JoinOf(%v, %d, %d) = %d is not at or above both", up, a, b, join)
				}
			}
		}
	}
}

// Promise 30.
func TestMeetsAreGreatest(t *testing.T) {
	for _, up := range shapedOrders() {
		above, dual := relationOf(up), impl.DualOf(up)
		for a := range up {
			for b := range up {
				meet := impl.MeetOf(up, a, b)
				if meet != impl.MeetOf(up, b, a) || meet != impl.JoinOf(dual, a, b) {
					t.Fatalf("MeetOf(%v, %d, %d) = %d, the other way %d, and JoinOf turned round %d", up, a, b, meet, impl.MeetOf(up, b, a), impl.JoinOf(dual, a, b))
				}
				if meet >= 0 && !above.isAtOrBelow(meet, []int{a, b}) {
					t.Fatalf("MeetOf(%v, %d, %d) = %d is not at or below both", up, a, b, meet)
				}
			}
		}
	}
}

// Promise 31.
func TestLatticesAreTheirOwnCuts(t *testing.T) {
	for _, up := range lattices() {
		if !impl.IsLattice(up) || !impl.IsLattice(impl.DualOf(up)) {
			t.Fatalf("IsLattice(%v) = %v, and %v turned round", up, impl.IsLattice(up), impl.IsLattice(impl.DualOf(up)))
		}
		var below []int
		for item := range up {
			below = append(below, impl.BelowOf(up, power(item)))
		}
		slices.Sort(below)
		if cuts := impl.CutsOf(up); len(cuts) != len(up) || !same(cuts, below) {
			t.Fatalf("CutsOf the lattice %v = %v, and all below each item %v", up, cuts, below)
		}
	}
}

// Promise 32.
func TestEvenLatticesAreTheIdealsOfTheirSingles(t *testing.T) {
	for _, up := range evenLattices() {
		if !impl.IsEven(up) || !impl.IsLattice(up) || !impl.IsEven(impl.DualOf(up)) {
			t.Fatalf("IsEven(%v) = %v, IsLattice = %v, IsEven turned round = %v", up, impl.IsEven(up), impl.IsLattice(up), impl.IsEven(impl.DualOf(up)))
		}
		singles := impl.PartOf(up, impl.SinglesOf(up))
		if count := impl.CountIdeals(singles); count != len(up) {
			t.Fatalf("the singles of %v are the order %v with %d ideals", up, singles, count)
		}
	}
}

// A lattice that is not even has fewer items than its singles have ideals.
func TestOtherLatticesHaveMoreIdealsOfTheirSingles(t *testing.T) {
	for _, up := range lattices() {
		count := impl.CountIdeals(impl.PartOf(up, impl.SinglesOf(up)))
		if isEven := impl.IsEven(up); isEven != (count == len(up)) || count < len(up) {
			t.Fatalf("IsEven(%v) = %v, but its singles have %d ideals", up, isEven, count)
		}
	}
}

// Promise 33.
func TestSinglesHaveOneBelow(t *testing.T) {
	for _, up := range shapedOrders() {
		ends := make([]int, len(up))
		for _, pair := range impl.CoversOf(up) {
			ends[pair[1]]++
		}
		singles := impl.SinglesOf(up)
		if singles < 0 || singles >= power(len(up)) {
			t.Fatalf("SinglesOf(%v) = %d is no set", up, singles)
		}
		for item, count := range ends {
			if isSingle := slices.Contains(membersOf(singles), item); isSingle != (count == 1) {
				t.Fatalf("SinglesOf(%v) = %d, but %d of CoversOf end at %d", up, singles, count, item)
			}
		}
	}
}

// Promise 34.
func TestPartsAreOrders(t *testing.T) {
	for _, up := range goodOrders() {
		dual := impl.DualOf(up)
		for s := range power(len(up)) {
			part := impl.PartOf(up, s)
			if !impl.ValidOrder(part) || len(part) != len(membersOf(s)) {
				t.Fatalf("PartOf(%v, %d) = %v is no order of as many items as the set", up, s, part)
			}
			if turned := impl.PartOf(dual, s); !same(turned, impl.DualOf(part)) {
				t.Fatalf("PartOf(%v, %d) = %v, and %v turned round", up, s, part, turned)
			}
		}
		if part := impl.PartOf(up, power(len(up))-1); !same(part, up) {
			t.Fatalf("PartOf(%v) all items = %v", up, part)
		}
	}
}

// Promise 35.
func TestCutsMeetInCuts(t *testing.T) {
	for _, up := range shapedOrders() {
		cuts := impl.CutsOf(up)
		if turned := impl.CutsOf(impl.DualOf(up)); !ascends(cuts) || len(cuts) < len(up) || len(cuts) != len(turned) {
			t.Fatalf("CutsOf(%v) = %v, and %v turned round", up, cuts, turned)
		}
		for _, a := range cuts {
			if !impl.IsIdeal(up, a) {
				t.Fatalf("CutsOf(%v) = %v, where %d is no ideal", up, cuts, a)
			}
			for _, b := range cuts {
				if !slices.Contains(cuts, a&b) {
					t.Fatalf("CutsOf(%v) = %v without what %d and %d have in common", up, cuts, a, b)
				}
			}
		}
	}
}

func TestBadOrdersHaveFixedResultsOfLattices(t *testing.T) {
	for _, up := range badOrders() {
		for a := range 7 {
			for b := range 7 {
				checkNoBounds(t, up, a, b)
			}
			for _, bad := range badItems(len(up)) {
				checkNoBounds(t, up, a, bad)
				checkNoBounds(t, up, bad, a)
			}
		}
		if impl.IsLattice(up) || impl.IsEven(up) {
			t.Errorf("IsLattice, IsEven(%v) = %v, %v", up, impl.IsLattice(up), impl.IsEven(up))
		}
		if got := impl.SinglesOf(up); got != -1 {
			t.Errorf("SinglesOf(%v) = %d", up, got)
		}
		for _, s := range append(badSets(len(up)%7), 0, 1, 3, 7, 63, power(len(up)%7)-1) {
			if got := impl.PartOf(up, s); len(got) != 0 {
				t.Errorf("PartOf(%v, %d) = %v", up, s, got)
			}
		}
		if got := impl.CutsOf(up); len(got) != 0 {
			t.Errorf("CutsOf(%v) = %v", up, got)
		}
	}
}

// callLattices calls each function of the chapter.
func callLattices(up []int) {
	for _, a := range []int{0, 1, 5, 6, -1} {
		for _, b := range []int{0, 1, 5, 6, -1} {
			impl.JoinOf(up, a, b)
			impl.MeetOf(up, a, b)
		}
	}
	impl.IsLattice(up)
	impl.IsEven(up)
	impl.SinglesOf(up)
	for _, s := range []int{0, 1, power(len(up)%7) - 1, -1, 64} {
		impl.PartOf(up, s)
	}
	impl.CutsOf(up)
}

func TestListsAreNotWrittenIntoByLattices(t *testing.T) {
	for _, up := range append(shapedOrders(), badOrders()...) {
		list := roomy(up)
		callLattices(list)
		if !roomIsKept(list, up) {
			t.Fatalf("%v is %v after the calls", up, list)
		}
	}
}

func TestListsOfLatticesShareNoMemory(t *testing.T) {
	for _, up := range goodOrders() {
		checkSharesNoMemory(t, "CutsOf", impl.CutsOf, up)
		for s := range power(len(up)) {
			part := func(list []int) []int { return impl.PartOf(list, s) }
			checkSharesNoMemory(t, "PartOf", part, up)
		}
	}
}
