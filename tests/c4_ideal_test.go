package tests

import (
	"slices"
	"sync"
	"testing"
	"testing/synctest"

	"loop.example/ordersthatbranch/impl"
)

// below returns the set of the members and all items below one of them.
func (r relation) below(members []int) int {
	set := 0
	for item := range r {
		isBelow := func(high int) bool { return item == high || r[item][high] }
		if slices.ContainsFunc(members, isBelow) {
			set += power(item)
		}
	}
	return set
}

// isIdeal reports whether the members are with each one all below it.
func (r relation) isIdeal(members []int) bool {
	for _, high := range members {
		for low := range r {
			if r[low][high] && !slices.Contains(members, low) {
				return false
			}
		}
	}
	return true
}

// lacked returns the items that are no members.
func (r relation) lacked(members []int) []int {
	var lacked []int
	for item := range r {
		if !slices.Contains(members, item) {
			lacked = append(lacked, item)
		}
	}
	return lacked
}

// lowest returns those members below which there is none of them.
func (r relation) lowest(members []int) []int {
	var lowest []int
	for _, item := range members {
		if !slices.ContainsFunc(members, func(low int) bool { return r[low][item] }) {
			lowest = append(lowest, item)
		}
	}
	return lowest
}

// setsThat returns all sets whose members fit, ascending.
func (r relation) setsThat(fit func([]int) bool) []int {
	var sets []int
	for s := range power(len(r)) {
		if fit(membersOf(s)) {
			sets = append(sets, s)
		}
	}
	return sets
}

// ascends reports whether each number is greater than the one ahead of it.
func ascends(list []int) bool {
	for i := 1; i < len(list); i++ {
		if list[i-1] >= list[i] {
			return false
		}
	}
	return true
}

// setOf returns the set of the members.
func setOf(members []int) int {
	set := 0
	for _, item := range members {
		set += power(item)
	}
	return set
}

func TestIsIdealAndBelowOf(t *testing.T) {
	diamond, zigzag := []int{14, 8, 8, 0}, []int{2, 0, 10, 0}
	chain, turned := []int{62, 60, 56, 48, 32, 0}, []int{0, 1, 3, 7, 15, 31}
	cases := []struct {
		up       []int
		s, below int
	}{
		{nil, 0, 0},
		{[]int{0}, 0, 0},
		{[]int{0}, 1, 1},
		{[]int{0, 0}, 2, 2},
		{[]int{2, 0}, 2, 3},
		{[]int{0, 1}, 1, 3},
		{[]int{0, 1}, 2, 2},
		{diamond, 0, 0},
		{diamond, 1, 1},
		{diamond, 2, 3},
		{diamond, 3, 3},
		{diamond, 4, 5},
		{diamond, 6, 7},
		{diamond, 7, 7},
		{diamond, 8, 15},
		{diamond, 9, 15},
		{diamond, 14, 15},
		{diamond, 15, 15},
		{zigzag, 2, 7},
		{zigzag, 8, 12},
		{zigzag, 10, 15},
		{zigzag, 5, 5},
		{chain, 32, 63},
		{chain, 31, 31},
		{chain, 62, 63},
		{turned, 1, 63},
		{turned, 32, 32},
		{turned, 63, 63},
		{make([]int, 6), 42, 42},
		{make([]int, 6), 63, 63},
		{[]int{48, 40, 24, 0, 0, 0}, 8, 14},
	}
	for _, c := range cases {
		if got := impl.BelowOf(c.up, c.s); got != c.below {
			t.Errorf("BelowOf(%v, %d) = %d, not %d", c.up, c.s, got, c.below)
		}
		if want := c.below == c.s; impl.IsIdeal(c.up, c.s) != want {
			t.Errorf("IsIdeal(%v, %d) = %v", c.up, c.s, !want)
		}
	}
}

func TestIsIdealAndBelowOfByTheirWords(t *testing.T) {
	for _, up := range goodOrders() {
		above := relationOf(up)
		for s := range power(len(up)) {
			if want := above.isIdeal(membersOf(s)); impl.IsIdeal(up, s) != want {
				t.Fatalf("IsIdeal(%v, %d) = %v", up, s, !want)
			}
			if got, want := impl.BelowOf(up, s), above.below(membersOf(s)); got != want {
				t.Fatalf("BelowOf(%v, %d) = %d, not %d", up, s, got, want)
			}
		}
	}
}

func TestSetsWithItemsThatAreNotThere(t *testing.T) {
	for _, up := range goodOrders() {
		for _, s := range badSets(len(up)) {
			checkNoIdeal(t, up, s)
		}
		for item := len(up); item < 63; item++ {
			checkNoIdeal(t, up, 1<<item)
			checkNoIdeal(t, up, 1<<item+power(len(up))-1)
		}
	}
}

// checkNoIdeal checks the results for what is no set of an order.
func checkNoIdeal(t *testing.T, up []int, s int) {
	t.Helper()
	if impl.IsIdeal(up, s) {
		t.Fatalf("IsIdeal(%v, %d) holds", up, s)
	}
	if got := impl.BelowOf(up, s); got != -1 {
		t.Fatalf("BelowOf(%v, %d) = %d", up, s, got)
	}
	if got := impl.NextIdeal(up, s); got != -1 {
		t.Fatalf("NextIdeal(%v, %d) = %d", up, s, got)
	}
}

func TestIdealsAndSetsApart(t *testing.T) {
	cases := []struct {
		up, ideals, aparts []int
	}{
		{nil, []int{0}, []int{0}},
		{[]int{0}, []int{0, 1}, []int{0, 1}},
		{[]int{0, 0}, []int{0, 1, 2, 3}, []int{0, 1, 2, 3}},
		{[]int{2, 0}, []int{0, 1, 3}, []int{0, 1, 2}},
		{[]int{0, 1}, []int{0, 2, 3}, []int{0, 1, 2}},
		{[]int{6, 4, 0}, []int{0, 1, 3, 7}, []int{0, 1, 2, 4}},
		{[]int{6, 0, 0}, []int{0, 1, 3, 5, 7}, []int{0, 1, 2, 4, 6}},
		{[]int{4, 4, 0}, []int{0, 1, 2, 3, 7}, []int{0, 1, 2, 3, 4}},
		{[]int{2, 0, 10, 0}, []int{0, 1, 4, 5, 7, 12, 13, 15}, []int{0, 1, 2, 4, 5, 8, 9, 10}},
		{[]int{14, 8, 8, 0}, []int{0, 1, 3, 5, 7, 15}, []int{0, 1, 2, 4, 6, 8}},
		{[]int{30, 16, 16, 16, 0}, []int{0, 1, 3, 5, 7, 9, 11, 13, 15, 31}, []int{0, 1, 2, 4, 6, 8, 10, 12, 14, 16}},
		{[]int{62, 60, 56, 48, 32, 0}, []int{0, 1, 3, 7, 15, 31, 63}, []int{0, 1, 2, 4, 8, 16, 32}},
		{[]int{0, 1, 3, 7, 15, 31}, []int{0, 32, 48, 56, 60, 62, 63}, []int{0, 1, 2, 4, 8, 16, 32}},
	}
	for _, c := range cases {
		if got := impl.IdealsOf(c.up); !same(got, c.ideals) {
			t.Errorf("IdealsOf(%v) = %v, not %v", c.up, got, c.ideals)
		}
		if got := impl.ApartsOf(c.up); !same(got, c.aparts) {
			t.Errorf("ApartsOf(%v) = %v, not %v", c.up, got, c.aparts)
		}
	}
}

func TestIdealsAndSetsApartByTheirWords(t *testing.T) {
	for _, up := range goodOrders() {
		above := relationOf(up)
		if got, want := impl.IdealsOf(up), above.setsThat(above.isIdeal); !same(got, want) {
			t.Fatalf("IdealsOf(%v) = %v, not %v", up, got, want)
		}
		if got, want := impl.ApartsOf(up), above.setsThat(above.isApart); !same(got, want) {
			t.Fatalf("ApartsOf(%v) = %v, not %v", up, got, want)
		}
	}
}

func TestCountIdeals(t *testing.T) {
	cases := []struct {
		up   []int
		want int
	}{
		{nil, 1},
		{[]int{0}, 2},
		{[]int{0, 0}, 4},
		{[]int{2, 0}, 3},
		{[]int{0, 1}, 3},
		{[]int{6, 0, 0}, 5},
		{[]int{4, 4, 0}, 5},
		{[]int{2, 0, 8, 0}, 9},
		{[]int{2, 0, 10, 0}, 8},
		{[]int{14, 8, 8, 0}, 6},
		{[]int{30, 16, 16, 16, 0}, 10},
		{[]int{56, 56, 56, 0, 0, 0}, 15},
		{[]int{48, 40, 24, 0, 0, 0}, 18},
		{[]int{62, 60, 56, 48, 32, 0}, 7},
		{[]int{0, 1, 3, 7, 15, 31}, 7},
		{make([]int, 5), 32},
		{make([]int, 6), 64},
	}
	for _, c := range cases {
		if got := impl.CountIdeals(c.up); got != c.want {
			t.Errorf("CountIdeals(%v) = %d, not %d", c.up, got, c.want)
		}
	}
}

func TestCountIdealsByItsWords(t *testing.T) {
	for _, up := range goodOrders() {
		above := relationOf(up)
		if got, want := impl.CountIdeals(up), len(above.setsThat(above.isIdeal)); got != want {
			t.Fatalf("CountIdeals(%v) = %d, not %d", up, got, want)
		}
	}
}

func TestNextIdeal(t *testing.T) {
	diamond, zigzag := []int{14, 8, 8, 0}, []int{2, 0, 10, 0}
	cases := []struct {
		up      []int
		s, want int
	}{
		{nil, 0, 0},
		{[]int{0}, 0, 1},
		{[]int{0}, 1, 0},
		{[]int{0, 0}, 0, 3},
		{[]int{0, 0}, 1, 2},
		{[]int{0, 0}, 3, 0},
		{[]int{0, 1}, 0, 2},
		{[]int{0, 1}, 2, 3},
		{diamond, 0, 1},
		{diamond, 1, 7},
		{diamond, 3, 5},
		{diamond, 5, 3},
		{diamond, 7, 15},
		{diamond, 15, 0},
		{zigzag, 0, 5},
		{zigzag, 1, 4},
		// The item 1 is lowest of what is lacked, and stands above one that is not lacked.
		{zigzag, 5, 15},
		{zigzag, 7, 12},
		{zigzag, 12, 1},
		{zigzag, 13, 7},
		{zigzag, 15, 0},
		// The items 1 and 2 are lowest of what is lacked, at different heights.
		{[]int{4, 0, 0}, 1, 7},
		{make([]int, 6), 0, 63},
		{make([]int, 6), 21, 42},
		{make([]int, 6), 63, 0},
		{[]int{0, 1, 3, 7, 15, 31}, 48, 56},
		{[]int{62, 60, 56, 48, 32, 0}, 63, 0},
	}
	for _, c := range cases {
		if got := impl.NextIdeal(c.up, c.s); got != c.want {
			t.Errorf("NextIdeal(%v, %d) = %d, not %d", c.up, c.s, got, c.want)
		}
	}
}

func TestNextIdealByItsWords(t *testing.T) {
	for _, up := range goodOrders() {
		above := relationOf(up)
		for s := range power(len(up)) {
			want := -1
			if above.isIdeal(membersOf(s)) {
				want = above.below(above.lowest(above.lacked(membersOf(s))))
			}
			if got := impl.NextIdeal(up, s); got != want {
				t.Fatalf("NextIdeal(%v, %d) = %d, not %d", up, s, got, want)
			}
		}
	}
}

func TestNextIdealOfSetsThatAreNoIdeals(t *testing.T) {
	cases := []struct {
		up []int
		s  int
	}{
		{[]int{2, 0}, 2},
		{[]int{0, 1}, 1},
		{[]int{6, 4, 0}, 5},
		{[]int{14, 8, 8, 0}, 2},
		{[]int{14, 8, 8, 0}, 8},
		{[]int{14, 8, 8, 0}, 11},
		{[]int{14, 8, 8, 0}, 14},
		{[]int{2, 0, 10, 0}, 3},
		{[]int{2, 0, 10, 0}, 10},
		{[]int{62, 60, 56, 48, 32, 0}, 62},
		{[]int{0, 1, 3, 7, 15, 31}, 31},
	}
	for _, c := range cases {
		if got := impl.NextIdeal(c.up, c.s); got != -1 {
			t.Errorf("NextIdeal(%v, %d) = %d", c.up, c.s, got)
		}
	}
}

// Promise 6.
func TestTopsAreApartAndStandForAllBelow(t *testing.T) {
	for _, up := range goodOrders() {
		for s := range power(len(up)) {
			tops, below := impl.TopsOf(up, s), impl.BelowOf(up, s)
			if tops|s != s || !impl.IsApart(up, tops) {
				t.Fatalf("TopsOf(%v, %d) = %d: not of the set, or not apart", up, s, tops)
			}
			if impl.TopsOf(up, below) != tops || impl.BelowOf(up, tops) != below {
				t.Fatalf("TopsOf(%v, %d) = %d and BelowOf = %d, but TopsOf that is %d and BelowOf the tops %d", up, s, tops, below, impl.TopsOf(up, below), impl.BelowOf(up, tops))
			}
		}
	}
}

// Promise 11.
func TestWidestSetApartIsAsManyAsFewestChains(t *testing.T) {
	for _, up := range goodOrders() {
		greatest := 0
		for _, s := range impl.ApartsOf(up) {
			greatest = max(greatest, len(membersOf(s)))
		}
		if widest := impl.WidestApart(up); widest != impl.FewestChains(up) || widest != greatest {
			t.Fatalf("WidestApart(%v) = %d, FewestChains = %d, the greatest of ApartsOf has %d", up, widest, impl.FewestChains(up), greatest)
		}
	}
}

// Promise 23.
func TestWhatIsLeftIsAnIdealTurnedRound(t *testing.T) {
	for _, up := range goodOrders() {
		dual, all := impl.DualOf(up), power(len(up))-1
		for s := range power(len(up)) {
			isIdeal := impl.IsIdeal(up, s)
			if isIdeal != (impl.BelowOf(up, s) == s) || isIdeal != impl.IsIdeal(dual, all-s) {
				t.Fatalf("IsIdeal(%v, %d) = %v: BelowOf = %d, IsIdeal of the others turned round = %v", up, s, isIdeal, impl.BelowOf(up, s), impl.IsIdeal(dual, all-s))
			}
		}
	}
}

// Promise 24.
func TestIdealsAreAsManyAsSetsApart(t *testing.T) {
	for _, up := range goodOrders() {
		ideals := impl.IdealsOf(up)
		if len(ideals) != impl.CountIdeals(up) || len(ideals) != len(impl.ApartsOf(up)) || !ascends(ideals) {
			t.Fatalf("IdealsOf(%v) = %v: CountIdeals = %d, ApartsOf = %v", up, ideals, impl.CountIdeals(up), impl.ApartsOf(up))
		}
		for _, a := range ideals {
			if !impl.IsIdeal(up, a) {
				t.Fatalf("IsIdeal(%v, %d), one of IdealsOf, does not hold", up, a)
			}
			for _, b := range ideals {
				if !slices.Contains(ideals, a|b) || !slices.Contains(ideals, a&b) {
					t.Fatalf("IdealsOf(%v) = %v: without %d and %d together, or what both have", up, ideals, a, b)
				}
			}
		}
	}
}

// Promise 25.
func TestAllBelowIsAnIdeal(t *testing.T) {
	for _, up := range goodOrders() {
		for s := range power(len(up)) {
			below := impl.BelowOf(up, s)
			if below|s != below || !impl.IsIdeal(up, below) || impl.TopsOf(up, below) != impl.TopsOf(up, s) {
				t.Fatalf("BelowOf(%v, %d) = %d: IsIdeal = %v, TopsOf = %d and %d", up, s, below, impl.IsIdeal(up, below), impl.TopsOf(up, below), impl.TopsOf(up, s))
			}
		}
	}
}

// Promise 27.
func TestEachSetApartTellsAnIdeal(t *testing.T) {
	for _, up := range goodOrders() {
		aparts := impl.ApartsOf(up)
		if len(aparts) != impl.CountIdeals(up) || !ascends(aparts) {
			t.Fatalf("ApartsOf(%v) = %v, CountIdeals = %d", up, aparts, impl.CountIdeals(up))
		}
		var told []int
		for _, s := range aparts {
			ideal := impl.BelowOf(up, s)
			if !impl.IsApart(up, s) || impl.TopsOf(up, ideal) != s {
				t.Fatalf("%d of ApartsOf(%v): IsApart = %v, TopsOf BelowOf it = %d", s, up, impl.IsApart(up, s), impl.TopsOf(up, ideal))
			}
			told = append(told, ideal)
		}
		slices.Sort(told)
		if !same(told, impl.IdealsOf(up)) {
			t.Fatalf("ApartsOf(%v) tell the ideals %v, not %v", up, told, impl.IdealsOf(up))
		}
	}
}

// Promise 28.
func TestNextIdealTellsTheOneAhead(t *testing.T) {
	for _, up := range goodOrders() {
		above := relationOf(up)
		dual, all := impl.DualOf(up), power(len(up))-1
		var nexts []int
		for _, s := range impl.IdealsOf(up) {
			next := impl.NextIdeal(up, s)
			lowest := setOf(above.lowest(above.lacked(membersOf(s))))
			tops := impl.TopsOf(up, next)
			if !impl.IsIdeal(up, next) || tops != lowest || tops != impl.TopsOf(dual, all-s) {
				t.Fatalf("NextIdeal(%v, %d) = %d: IsIdeal = %v, TopsOf = %d, lowest lacked %d and %d", up, s, next, impl.IsIdeal(up, next), tops, lowest, impl.TopsOf(dual, all-s))
			}
			nexts = append(nexts, next)
		}
		slices.Sort(nexts)
		if !same(nexts, impl.IdealsOf(up)) {
			t.Fatalf("the next ideals of %v are %v: one tells two ahead", up, nexts)
		}
	}
}

func TestBadOrdersHaveFixedResultsOfIdeals(t *testing.T) {
	for _, up := range badOrders() {
		for _, s := range append(badSets(len(up)%7), 0, 1, 3, 7, 63, power(len(up)%7)-1) {
			checkNoIdeal(t, up, s)
		}
		if got := impl.CountIdeals(up); got != -1 {
			t.Errorf("CountIdeals(%v) = %d", up, got)
		}
		for name, f := range idealLists() {
			if got := f(up); len(got) != 0 {
				t.Errorf("%s(%v) = %v", name, up, got)
			}
		}
	}
}

// idealLists are the functions of the chapter whose result is a list.
func idealLists() map[string]func([]int) []int {
	return map[string]func([]int) []int{
		"IdealsOf": impl.IdealsOf,
		"ApartsOf": impl.ApartsOf,
	}
}

// callIdeals calls each function of the chapter.
func callIdeals(up []int) {
	for _, s := range []int{0, 1, power(len(up)%7) - 1, -1, 64} {
		impl.IsIdeal(up, s)
		impl.BelowOf(up, s)
		impl.NextIdeal(up, s)
	}
	impl.IdealsOf(up)
	impl.CountIdeals(up)
	impl.ApartsOf(up)
}

func TestListsAreNotWrittenIntoByIdeals(t *testing.T) {
	for _, up := range append(goodOrders(), badOrders()...) {
		list := roomy(up)
		callIdeals(list)
		if !roomIsKept(list, up) {
			t.Fatalf("%v is %v after the calls", up, list)
		}
	}
}

func TestListsOfIdealsShareNoMemory(t *testing.T) {
	for name, f := range idealLists() {
		for _, up := range goodOrders() {
			checkSharesNoMemory(t, name, f, up)
		}
	}
}

// The bubble is left only when all goroutines that were started in it have
// ended, and fails if one of them waits for ever.
func TestNothingRunsOnBehindIdeals(t *testing.T) {
	for _, up := range append(namedOrders(), badOrders()...) {
		synctest.Test(t, func(t *testing.T) {
			callIdeals(up)
		})
	}
}

func TestIdealsAreToldAtTheSameTime(t *testing.T) {
	var group sync.WaitGroup
	for _, up := range namedOrders() {
		want := impl.ApartsOf(up)
		for range 8 {
			group.Go(func() {
				if got := impl.ApartsOf(up); !same(got, want) {
					t.Errorf("ApartsOf(%v) = %v, not %v", up, got, want)
				}
			})
		}
	}
	group.Wait()
}
