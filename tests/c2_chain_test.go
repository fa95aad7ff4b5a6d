package tests

import (
	"slices"
	"testing"

	"loop.example/ordersthatbranch/impl"
)

// isChain reports whether of each two of the members one is above the other one.
func (r relation) isChain(members []int) bool {
	for i, a := range members {
		for _, b := range members[:i] {
			if !r[a][b] && !r[b][a] {
				return false
			}
		}
	}
	return true
}

// isApart reports whether of no two of the members one is above the other one.
func (r relation) isApart(members []int) bool {
	for i, a := range members {
		for _, b := range members[:i] {
			if r[a][b] || r[b][a] {
				return false
			}
		}
	}
	return true
}

// mostOf returns the greatest number of members that fit.
func (r relation) mostOf(fit func([]int) bool) int {
	most := 0
	for s := range power(len(r)) {
		if members := membersOf(s); fit(members) {
			most = max(most, len(members))
		}
	}
	return most
}

// leastParts returns the least number of sets that fit into which all items can be parted.
func (r relation) leastParts(fit func([]int) bool) int {
	least := make([]int, power(len(r)))
	for s := 1; s < len(least); s++ {
		least[s] = len(r)
		for part := 1; part <= s; part++ {
			if part&s == part && fit(membersOf(part)) {
				least[s] = min(least[s], least[s-part]+1)
			}
		}
	}
	return least[len(least)-1]
}

// matching is how items are matched with ones above them, in the document's words.
type matching struct {
	above  relation
	highOf map[int]int
	lowOf  map[int]int
}

// find matches the item with one that is not asked yet, if there is one for it.
func (m matching) find(low int, asked map[int]bool) bool {
	for high := range m.above {
		if !m.above[low][high] || asked[high] {
			continue
		}
		asked[high] = true
		other, isTaken := m.lowOf[high]
		if isTaken && !m.find(other, asked) {
			continue
		}
		m.lowOf[high], m.highOf[low] = low, high
		return true
	}
	return false
}

// chainParts returns the chains of a matching, by following each up from the item that is above none.
func (r relation) chainParts() []int {
	m := matching{r, map[int]int{}, map[int]int{}}
	for low := range r {
		m.find(low, map[int]bool{})
	}
	var parts []int
	for item := range r {
		if _, isAbove := m.lowOf[item]; isAbove {
			continue
		}
		part := power(item)
		for next, goesOn := m.highOf[item]; goesOn; next, goesOn = m.highOf[next] {
			part += power(next)
		}
		parts = append(parts, part)
	}
	slices.Sort(parts)
	return parts
}

func TestIsChainAndIsApartOfSets(t *testing.T) {
	cases := []struct {
		up             []int
		s              int
		isChain, apart bool
	}{
		{nil, 0, true, true},
		{[]int{0}, 0, true, true},
		{[]int{0}, 1, true, true},
		{[]int{14, 8, 8, 0}, 0, true, true},
		{[]int{14, 8, 8, 0}, 8, true, true},
		{[]int{14, 8, 8, 0}, 9, true, false},
		{[]int{14, 8, 8, 0}, 11, true, false},
		{[]int{14, 8, 8, 0}, 6, false, true},
		{[]int{14, 8, 8, 0}, 7, false, false},
		{[]int{14, 8, 8, 0}, 15, false, false},
		{[]int{2, 0, 10, 0}, 9, false, true},
		{[]int{2, 0, 10, 0}, 10, false, true},
		{[]int{2, 0, 10, 0}, 11, false, false},
		{[]int{0, 1, 3}, 7, true, false},
		{[]int{0, 1, 3}, 5, true, false},
		{[]int{62, 60, 56, 48, 32, 0}, 63, true, false},
		{[]int{0, 0, 0, 0, 0, 0}, 63, false, true},
		{[]int{32, 0, 0, 0, 0, 0}, 33, true, false},
		{[]int{32, 0, 0, 0, 0, 0}, 62, false, true},
	}
	for _, c := range cases {
		if got := impl.IsChain(c.up, c.s); got != c.isChain {
			t.Errorf("IsChain(%v, %d) = %v", c.up, c.s, got)
		}
		if got := impl.IsApart(c.up, c.s); got != c.apart {
			t.Errorf("IsApart(%v, %d) = %v", c.up, c.s, got)
		}
	}
}

func TestIsChainAndIsApartByTheirWords(t *testing.T) {
	for _, up := range goodOrders() {
		above := relationOf(up)
		for s := range power(len(up)) {
			if want := above.isChain(membersOf(s)); impl.IsChain(up, s) != want {
				t.Fatalf("IsChain(%v, %d) = %v", up, s, !want)
			}
			if want := above.isApart(membersOf(s)); impl.IsApart(up, s) != want {
				t.Fatalf("IsApart(%v, %d) = %v", up, s, !want)
			}
		}
	}
}

func TestIsChainAndIsApartOfBadSets(t *testing.T) {
	for _, up := range goodOrders() {
		for _, s := range badSets(len(up)) {
			if impl.IsChain(up, s) || impl.IsApart(up, s) {
				t.Fatalf("IsChain, IsApart(%v, %d) = %v, %v", up, s, impl.IsChain(up, s), impl.IsApart(up, s))
			}
		}
	}
}

func TestSizesOfChainsAndSetsApart(t *testing.T) {
	cases := []struct {
		up            []int
		longest, wide int
	}{
		{nil, 0, 0},
		{[]int{0}, 1, 1},
		{[]int{0, 0}, 1, 2},
		{[]int{2, 0}, 2, 1},
		{[]int{6, 4, 0}, 3, 1},
		{[]int{14, 8, 8, 0}, 3, 2},
		{[]int{2, 0, 10, 0}, 2, 2},
		{[]int{0, 1, 3, 7, 15, 31}, 6, 1},
		{[]int{0, 0, 0, 0, 0, 0}, 1, 6},
		{[]int{56, 56, 56, 0, 0, 0}, 2, 3},
		{[]int{30, 16, 16, 16, 0}, 3, 3},
		{[]int{62, 0, 0, 0, 0, 0}, 2, 5},
	}
	for _, c := range cases {
		if got := impl.LongestChain(c.up); got != c.longest {
			t.Errorf("LongestChain(%v) = %d, not %d", c.up, got, c.longest)
		}
		if got := impl.WidestApart(c.up); got != c.wide {
			t.Errorf("WidestApart(%v) = %d, not %d", c.up, got, c.wide)
		}
		if got := impl.FewestChains(c.up); got != c.wide {
			t.Errorf("FewestChains(%v) = %d, not %d", c.up, got, c.wide)
		}
	}
}

func TestSizesByTheirWords(t *testing.T) {
	for _, up := range goodOrders() {
		above := relationOf(up)
		if got, want := impl.LongestChain(up), above.mostOf(above.isChain); got != want {
			t.Fatalf("LongestChain(%v) = %d, not %d", up, got, want)
		}
		if got, want := impl.WidestApart(up), above.mostOf(above.isApart); got != want {
			t.Fatalf("WidestApart(%v) = %d, not %d", up, got, want)
		}
		if got, want := impl.FewestChains(up), above.leastParts(above.isChain); got != want {
			t.Fatalf("FewestChains(%v) = %d, not %d", up, got, want)
		}
	}
}

func TestChainParts(t *testing.T) {
	cases := []struct{ up, want []int }{
		{nil, nil},
		{[]int{0}, []int{1}},
		{[]int{0, 0, 0}, []int{1, 2, 4}},
		{[]int{6, 4, 0}, []int{7}},
		{[]int{0, 1, 3}, []int{7}},
		{[]int{62, 60, 56, 48, 32, 0}, []int{63}},
		{[]int{0, 0, 0, 0, 0, 0}, []int{1, 2, 4, 8, 16, 32}},
		{[]int{14, 8, 8, 0}, []int{4, 11}},
		{[]int{6, 0, 0}, []int{3, 4}},
		{[]int{4, 4, 0}, []int{2, 5}},
		{[]int{2, 0, 10, 0}, []int{3, 12}},
		{[]int{0, 0, 2, 3}, []int{6, 9}},
		{[]int{62, 0, 0, 0, 0, 6}, []int{5, 8, 16, 34}},
	}
	for _, c := range cases {
		if got := impl.ChainParts(c.up); !same(got, c.want) {
			t.Errorf("ChainParts(%v) = %v, not %v", c.up, got, c.want)
		}
	}
}

// An item is matched anew where another one asks for the one above it.
func TestChainPartsMatchedAnew(t *testing.T) {
	cases := []struct{ up, want []int }{
		{[]int{12, 4, 0, 0}, []int{6, 9}},
		// The first one above is asked, though the second one is free.
		{[]int{12, 12, 0, 0}, []int{6, 9}},
		{[]int{56, 56, 56, 0, 0, 0}, []int{12, 18, 33}},
		// Two items are matched anew for the third one.
		{[]int{24, 40, 8, 0, 0, 0}, []int{12, 17, 34}},
		{[]int{24, 48, 8, 0, 0, 0}, []int{12, 17, 34}},
		// The one that would be matched anew finds no other one.
		{[]int{8, 8, 0, 0}, []int{2, 4, 9}},
		{[]int{16, 48, 16, 0, 0, 0}, []int{4, 8, 17, 34}},
		// One that is asked for the second item in vain is asked for the third one again.
		{[]int{24, 8, 24, 0, 0}, []int{4, 10, 17}},
		{[]int{24, 24, 8, 0, 0}, []int{4, 10, 17}},
	}
	for _, c := range cases {
		if got := impl.ChainParts(c.up); !same(got, c.want) {
			t.Errorf("ChainParts(%v) = %v, not %v", c.up, got, c.want)
		}
	}
}

func TestChainPartsByTheirWords(t *testing.T) {
	for _, up := range goodOrders() {
		if got, want := impl.ChainParts(up), relationOf(up).chainParts(); !same(got, want) {
			t.Fatalf("ChainParts(%v) = %v, not %v", up, got, want)
		}
	}
}

func TestLevelParts(t *testing.T) {
	cases := []struct{ up, want []int }{
		{nil, nil},
		{[]int{0}, []int{1}},
		{[]int{0, 0}, []int{3}},
		{[]int{6, 4, 0}, []int{1, 2, 4}},
		{[]int{0, 1, 3}, []int{4, 2, 1}},
		{[]int{14, 8, 8, 0}, []int{1, 6, 8}},
		{[]int{2, 0, 10, 0}, []int{5, 10}},
		{[]int{12, 8, 8, 0}, []int{3, 4, 8}},
		{[]int{0, 0, 0, 0, 0, 0}, []int{63}},
		{[]int{62, 60, 56, 48, 32, 0}, []int{1, 2, 4, 8, 16, 32}},
	}
	for _, c := range cases {
		if got := impl.LevelParts(c.up); !same(got, c.want) {
			t.Errorf("LevelParts(%v) = %v, not %v", c.up, got, c.want)
		}
	}
}

func TestLevelPartsByTheirWords(t *testing.T) {
	for _, up := range goodOrders() {
		above := relationOf(up)
		var want []int
		for item := range up {
			height := above.mostBelow(item)
			for len(want) <= height {
				want = append(want, 0)
			}
			want[height] += power(item)
		}
		if got := impl.LevelParts(up); !same(got, want) {
			t.Fatalf("LevelParts(%v) = %v, not %v", up, got, want)
		}
	}
}

func TestCountChains(t *testing.T) {
	cases := []struct{ up, want []int }{
		{nil, []int{1}},
		{[]int{0}, []int{1, 1}},
		{[]int{0, 0, 0}, []int{1, 3}},
		{[]int{6, 4, 0}, []int{1, 3, 3, 1}},
		{[]int{2, 0, 10, 0}, []int{1, 4, 3}},
		{[]int{14, 8, 8, 0}, []int{1, 4, 5, 2}},
		{[]int{0, 0, 0, 0, 0, 0}, []int{1, 6}},
		{[]int{0, 1, 3, 7, 15, 31}, []int{1, 6, 15, 20, 15, 6, 1}},
	}
	for _, c := range cases {
		if got := impl.CountChains(c.up); !same(got, c.want) {
			t.Errorf("CountChains(%v) = %v, not %v", c.up, got, c.want)
		}
	}
}

func TestCountChainsByTheirWords(t *testing.T) {
	for _, up := range goodOrders() {
		above := relationOf(up)
		want := make([]int, above.mostOf(above.isChain)+1)
		for s := range power(len(up)) {
			if members := membersOf(s); above.isChain(members) {
				want[len(members)]++
			}
		}
		if got := impl.CountChains(up); !same(got, want) {
			t.Fatalf("CountChains(%v) = %v, not %v", up, got, want)
		}
	}
}

// Promise 3.
func TestTurnedRoundTwiceIsAsBefore(t *testing.T) {
	for _, up := range goodOrders() {
		dual := impl.DualOf(up)
		if !same(impl.DualOf(dual), up) {
			t.Fatalf("%v turned round twice is %v", up, impl.DualOf(dual))
		}
		for name, f := range map[string]func([]int) int{
			"CountPairs":   impl.CountPairs,
			"LongestChain": impl.LongestChain,
			"WidestApart":  impl.WidestApart,
		} {
			if f(up) != f(dual) {
				t.Fatalf("%s(%v) = %d, but %d turned round", name, up, f(up), f(dual))
			}
		}
	}
}

// Promise 5.
func TestHeightsRise(t *testing.T) {
	for _, up := range goodOrders() {
		heights := impl.HeightsOf(up)
		for _, pair := range relationOf(up).pairs() {
			if heights[pair[0]] >= heights[pair[1]] {
				t.Fatalf("HeightsOf(%v) = %v falls at %v", up, heights, pair)
			}
		}
		if longest := impl.LongestChain(up); len(up) > 0 && slices.Max(heights) != longest-1 {
			t.Fatalf("HeightsOf(%v) = %v, but LongestChain = %d", up, heights, longest)
		}
	}
}

// Promise 7.
func TestPairsAreTwoItemsEach(t *testing.T) {
	for _, up := range goodOrders() {
		pairs := impl.CountPairs(up)
		ofTwo := 0
		if counts := impl.CountChains(up); len(counts) > 2 {
			ofTwo = counts[2]
		}
		if pairs != impl.CountPairs(impl.DualOf(up)) || pairs != ofTwo || pairs > len(up)*(len(up)-1)/2 {
			t.Fatalf("CountPairs(%v) = %d, CountChains of two = %d", up, pairs, ofTwo)
		}
	}
}

// Promise 8.
func TestChainsMeetSetsApartOnce(t *testing.T) {
	for _, up := range goodOrders() {
		dual := impl.DualOf(up)
		for s := range power(len(up)) {
			if !impl.IsChain(up, s) {
				continue
			}
			if size := len(membersOf(s)); size > impl.LongestChain(up) || impl.IsApart(up, s) != (size <= 1) {
				t.Fatalf("chain %d of %v: LongestChain = %d, IsApart = %v", s, up, impl.LongestChain(up), impl.IsApart(up, s))
			}
			if !impl.IsChain(dual, s) || !impl.IsChain(up, withoutLeast(s)) {
				t.Fatalf("chain %d of %v is none turned round, or none without its least number", s, up)
			}
		}
	}
}

// withoutLeast returns the set without its least item.
func withoutLeast(s int) int {
	if s == 0 {
		return 0
	}
	return s - power(membersOf(s)[0])
}

// Promise 9.
func TestWhatIsApartIsItsOwnTops(t *testing.T) {
	for _, up := range goodOrders() {
		dual := impl.DualOf(up)
		for s := range power(len(up)) {
			if !impl.IsApart(up, s) {
				continue
			}
			if len(membersOf(s)) > impl.WidestApart(up) || !impl.IsApart(dual, s) || impl.TopsOf(up, s) != s {
				t.Fatalf("%d apart in %v: WidestApart = %d, TopsOf = %d", s, up, impl.WidestApart(up), impl.TopsOf(up, s))
			}
		}
	}
}

// Promise 10.
func TestLongestChainIsAsManyAsFewestSetsApart(t *testing.T) {
	for _, up := range goodOrders() {
		above := relationOf(up)
		longest := impl.LongestChain(up)
		levels, counts := impl.LevelParts(up), impl.CountChains(up)
		if longest != above.leastParts(above.isApart) || longest != len(levels) || longest != len(counts)-1 {
			t.Fatalf("LongestChain(%v) = %d, LevelParts = %v, CountChains = %v", up, longest, levels, counts)
		}
		if counts[longest] < 1 {
			t.Fatalf("CountChains(%v) = %v ends with none", up, counts)
		}
	}
}

// Promise 12.
func TestFewestChainsAreAsManyAsItemsCanBeApart(t *testing.T) {
	for _, up := range goodOrders() {
		fewest := impl.FewestChains(up)
		if fewest != impl.WidestApart(up) || fewest != len(impl.ChainParts(up)) || fewest != impl.FewestChains(impl.DualOf(up)) {
			t.Fatalf("FewestChains(%v) = %d, WidestApart = %d, ChainParts = %v", up, fewest, impl.WidestApart(up), impl.ChainParts(up))
		}
	}
}

// Promise 13.
func TestChainsPartAll(t *testing.T) {
	for _, up := range goodOrders() {
		parts := impl.ChainParts(up)
		for _, part := range parts {
			if !impl.IsChain(up, part) {
				t.Fatalf("ChainParts(%v) = %v, where %d is no chain", up, parts, part)
			}
		}
		if !partAll(parts, len(up)) || !slices.IsSorted(parts) || len(parts) != impl.FewestChains(up) {
			t.Fatalf("ChainParts(%v) = %v", up, parts)
		}
	}
}

// Promise 14.
func TestLevelsPartAll(t *testing.T) {
	for _, up := range goodOrders() {
		parts := impl.LevelParts(up)
		for _, part := range parts {
			if !impl.IsApart(up, part) {
				t.Fatalf("LevelParts(%v) = %v, where %d is not apart", up, parts, part)
			}
		}
		if !partAll(parts, len(up)) || len(parts) != impl.LongestChain(up) {
			t.Fatalf("LevelParts(%v) = %v", up, parts)
		}
	}
}

// partAll reports whether each of n items is in just one of the sets, and none is empty.
func partAll(parts []int, n int) bool {
	var members []int
	for _, part := range parts {
		if part <= 0 {
			return false
		}
		members = append(members, membersOf(part)...)
	}
	slices.Sort(members)
	for i, member := range members {
		if i != member {
			return false
		}
	}
	return len(members) == n
}

// Promise 15.
func TestChainsOfTwoArePairs(t *testing.T) {
	for _, up := range goodOrders() {
		counts := impl.CountChains(up)
		if !same(counts, impl.CountChains(impl.DualOf(up))) {
			t.Fatalf("CountChains(%v) = %v, but %v turned round", up, counts, impl.CountChains(impl.DualOf(up)))
		}
		counts = append(slices.Clone(counts), 0, 0)
		if want := []int{1, len(up), impl.CountPairs(up)}; !same(counts[:3], want) {
			t.Fatalf("CountChains(%v) = %v, not %v", up, counts, want)
		}
	}
}

func TestBadOrdersHaveFixedResultsOfChains(t *testing.T) {
	for _, up := range badOrders() {
		for _, s := range append(badSets(len(up)%7), 0, 1, 3) {
			if impl.IsChain(up, s) || impl.IsApart(up, s) {
				t.Errorf("IsChain, IsApart(%v, %d) = %v, %v", up, s, impl.IsChain(up, s), impl.IsApart(up, s))
			}
		}
		for name, f := range map[string]func([]int) int{
			"LongestChain": impl.LongestChain,
			"WidestApart":  impl.WidestApart,
			"FewestChains": impl.FewestChains,
		} {
			if got := f(up); got != -1 {
				t.Errorf("%s(%v) = %d", name, up, got)
			}
		}
		for name, f := range chainLists() {
			if got := f(up); len(got) != 0 {
				t.Errorf("%s(%v) = %v", name, up, got)
			}
		}
	}
}

// chainLists are the functions of the chapter whose result is a list.
func chainLists() map[string]func([]int) []int {
	return map[string]func([]int) []int{
		"ChainParts":  impl.ChainParts,
		"LevelParts":  impl.LevelParts,
		"CountChains": impl.CountChains,
	}
}

func TestListsAreNotWrittenIntoByChains(t *testing.T) {
	for _, up := range append(goodOrders(), badOrders()...) {
		list := roomy(up)
		impl.IsChain(list, power(len(up)%7)-1)
		impl.IsApart(list, power(len(up)%7)-1)
		impl.LongestChain(list)
		impl.WidestApart(list)
		impl.FewestChains(list)
		impl.ChainParts(list)
		impl.LevelParts(list)
		impl.CountChains(list)
		if !roomIsKept(list, up) {
			t.Fatalf("%v is %v after the calls", up, list)
		}
	}
}

func TestListsOfChainsShareNoMemory(t *testing.T) {
	for name, f := range chainLists() {
		for _, up := range goodOrders() {
			checkSharesNoMemory(t, name, f, up)
		}
	}
}
