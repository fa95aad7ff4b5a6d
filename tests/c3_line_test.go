package tests

import (
	"math"
	"slices"
	"testing"

	"loop.example/ordersthatbranch/impl"
)

// lineOrders returns goodOrders, and others of just as many items as all lines are listed of.
func lineOrders() [][]int {
	all := goodOrders()
	for _, up := range broadOrders(100) {
		fewer := newRelation(impl.MaxTried)
		for _, pair := range relationOf(up).pairs() {
			if pair[1] < impl.MaxTried && pair[0] < impl.MaxTried {
				fewer[pair[0]][pair[1]] = true
			}
		}
		all = append(all, fewer.sets())
	}
	return all
}

// arrangements returns all lists of n different items, that with the lesser item where two differ first.
func arrangements(n int) [][]int {
	all := [][]int{nil}
	for range n {
		var longer [][]int
		for _, list := range all {
			for item := range n {
				if !slices.Contains(list, item) {
					longer = append(longer, append(slices.Clone(list), item))
				}
			}
		}
		all = longer
	}
	return all
}

// isLine reports whether each item is in the list once, and none behind one above it.
func (r relation) isLine(list []int) bool {
	if len(list) != len(r) {
		return false
	}
	sorted := slices.Sorted(slices.Values(list))
	for i := range list {
		if sorted[i] != i {
			return false
		}
	}
	for i, behind := range list {
		for _, ahead := range list[:i] {
			if r[behind][ahead] {
				return false
			}
		}
	}
	return true
}

// lines returns all arrangements that are lines.
func (r relation) lines() [][]int {
	var lines [][]int
	for _, list := range arrangements(len(r)) {
		if r.isLine(list) {
			lines = append(lines, list)
		}
	}
	return lines
}

// isForest reports whether of any two items below an item one is above the other one.
func (r relation) isForest() bool {
	for item := range r {
		var below []int
		for low := range r {
			if r[low][item] {
				below = append(below, low)
			}
		}
		if !r.isChain(below) {
			return false
		}
	}
	return true
}

// isFrac reports whether a fraction is the share, without a common factor.
func isFrac(f impl.Frac, share int, all int) bool {
	for factor := 2; factor <= f.Down; factor++ {
		if f.Up%factor == 0 && f.Down%factor == 0 {
			return false
		}
	}
	return f.Down >= 1 && f.Up*all == share*f.Down
}

// badRanks are numbers that are no ranks where there are so many lines.
func badRanks(count int) []int {
	return []int{-1, -2, -count, -count - 1, count, count + 1, 2 * count, 721, 1 << 32, math.MaxInt, math.MinInt}
}

// badItems are numbers that are no items of an order of n items.
func badItems(n int) []int {
	return []int{-1, -2, n, n + 1, 6, 63, 64, 1 << 32, math.MaxInt, math.MinInt}
}

func TestMaxTried(t *testing.T) {
	if impl.MaxTried != 5 {
		t.Errorf("MaxTried = %d", impl.MaxTried)
	}
}

func TestCountLinesAndForestLines(t *testing.T) {
	cases := []struct {
		up            []int
		count, forest int
	}{
		{nil, 1, 1},
		{[]int{0}, 1, 1},
		{[]int{0, 0}, 2, 2},
		{[]int{2, 0}, 1, 1},
		{[]int{0, 1}, 1, 1},
		{[]int{6, 4, 0}, 1, 1},
		{[]int{6, 0, 0}, 2, 2},
		{[]int{4, 4, 0}, 2, -1},
		{[]int{2, 0, 10, 0}, 5, -1},
		{[]int{2, 0, 8, 0}, 6, 6},
		{[]int{14, 8, 8, 0}, 2, -1},
		{[]int{30, 16, 16, 16, 0}, 6, -1},
		{[]int{0, 1, 3, 7, 15}, 1, 1},
		{[]int{30, 0, 24, 0, 0}, 8, 8},
		{[]int{62, 0, 0, 0, 0, 0}, 120, 120},
		{[]int{32, 32, 32, 32, 32, 0}, 120, -1},
		{[]int{62, 12, 0, 0, 32, 0}, 20, 20},
		{[]int{0, 1, 1, 7, 7, 7}, 12, -1},
		{[]int{56, 56, 56, 0, 0, 0}, 36, -1},
		{[]int{62, 60, 56, 48, 32, 0}, 1, 1},
		{[]int{0, 0, 0, 0, 0}, 120, 120},
		{[]int{0, 0, 0, 0, 0, 0}, 720, 720},
	}
	for _, c := range cases {
		if got := impl.CountLines(c.up); got != c.count {
			t.Errorf("CountLines(%v) = %d, not %d", c.up, got, c.count)
		}
		if got := impl.ForestLines(c.up); got != c.forest {
			t.Errorf("ForestLines(%v) = %d, not %d", c.up, got, c.forest)
		}
	}
}

func TestCountLinesByTheirWords(t *testing.T) {
	for _, up := range lineOrders() {
		above := relationOf(up)
		want := len(above.lines())
		if got := impl.CountLines(up); got != want {
			t.Fatalf("CountLines(%v) = %d, not %d", up, got, want)
		}
		if !above.isForest() {
			want = -1
		}
		if got := impl.ForestLines(up); got != want {
			t.Fatalf("ForestLines(%v) = %d, not %d", up, got, want)
		}
	}
}

func TestLinesOf(t *testing.T) {
	cases := []struct {
		up   []int
		want [][]int
	}{
		{nil, [][]int{{}}},
		{[]int{0}, [][]int{{0}}},
		{[]int{0, 0}, [][]int{{0, 1}, {1, 0}}},
		{[]int{0, 1}, [][]int{{1, 0}}},
		{[]int{6, 4, 0}, [][]int{{0, 1, 2}}},
		{[]int{4, 4, 0}, [][]int{{0, 1, 2}, {1, 0, 2}}},
		{[]int{0, 0, 1}, [][]int{{1, 2, 0}, {2, 0, 1}, {2, 1, 0}}},
		{[]int{2, 0, 10, 0}, [][]int{{0, 2, 1, 3}, {0, 2, 3, 1}, {2, 0, 1, 3}, {2, 0, 3, 1}, {2, 3, 0, 1}}},
		{[]int{14, 8, 8, 0}, [][]int{{0, 1, 2, 3}, {0, 2, 1, 3}}},
		{[]int{0, 1, 3, 7, 15}, [][]int{{4, 3, 2, 1, 0}}},
	}
	for _, c := range cases {
		if got := impl.LinesOf(c.up); !sameRows(got, c.want) {
			t.Errorf("LinesOf(%v) = %v, not %v", c.up, got, c.want)
		}
	}
}

func TestLinesOfByTheirWords(t *testing.T) {
	for _, up := range lineOrders() {
		if len(up) > impl.MaxTried {
			continue
		}
		if got, want := impl.LinesOf(up), relationOf(up).lines(); !sameRows(got, want) {
			t.Fatalf("LinesOf(%v) = %v, not %v", up, got, want)
		}
	}
}

func TestLinesOfAreListedOfFewItems(t *testing.T) {
	if got := impl.LinesOf(make([]int, impl.MaxTried)); !sameRows(got, arrangements(impl.MaxTried)) {
		t.Errorf("LinesOf %d items apart are %d", impl.MaxTried, len(got))
	}
	for _, up := range goodOrders() {
		if got := impl.LinesOf(up); len(up) > impl.MaxTried && len(got) != 0 {
			t.Errorf("LinesOf(%v) = %v", up, got)
		}
	}
}

func TestIsLineAndLineRank(t *testing.T) {
	diamond, zigzag := []int{14, 8, 8, 0}, []int{2, 0, 10, 0}
	cases := []struct {
		up, list []int
		rank     int
	}{
		{nil, nil, 0},
		{nil, []int{}, 0},
		{[]int{0}, []int{0}, 0},
		{[]int{0, 0}, []int{1, 0}, 1},
		{diamond, []int{0, 1, 2, 3}, 0},
		{diamond, []int{0, 2, 1, 3}, 1},
		{zigzag, []int{0, 2, 1, 3}, 0},
		{zigzag, []int{2, 0, 1, 3}, 2},
		{zigzag, []int{2, 3, 0, 1}, 4},
		{make([]int, 6), []int{0, 1, 2, 3, 4, 5}, 0},
		{make([]int, 6), []int{3, 0, 5, 1, 2, 4}, 378},
		{make([]int, 6), []int{5, 4, 3, 2, 1, 0}, 719},
		{[]int{62, 60, 56, 48, 32, 0}, []int{0, 1, 2, 3, 4, 5}, 0},
		{[]int{0, 1, 3, 7, 15, 31}, []int{5, 4, 3, 2, 1, 0}, 0},
	}
	for _, c := range cases {
		if !impl.IsLine(c.up, c.list) {
			t.Errorf("IsLine(%v, %v) does not hold", c.up, c.list)
		}
		if got := impl.LineRank(c.up, c.list); got != c.rank {
			t.Errorf("LineRank(%v, %v) = %d, not %d", c.up, c.list, got, c.rank)
		}
	}
}

func TestListsThatAreNoLines(t *testing.T) {
	diamond := []int{14, 8, 8, 0}
	apart := make([]int, 6)
	cases := []struct{ up, list []int }{
		{nil, []int{0}},
		{nil, []int{-1}},
		{[]int{0}, nil},
		{[]int{0}, []int{1}},
		{[]int{0}, []int{-1}},
		{[]int{0}, []int{0, 0}},
		// An item twice.
		{[]int{0, 0}, []int{0, 0}},
		{diamond, []int{0, 1, 1, 3}},
		{diamond, []int{0, 0, 1, 2}},
		{diamond, []int{0, 1, 2, 3, 3}},
		{apart, []int{0, 1, 2, 3, 4, 4}},
		{apart, []int{5, 1, 2, 3, 4, 5}},
		// An item is missing.
		{diamond, nil},
		{diamond, []int{0, 1, 2}},
		{diamond, []int{1, 2, 3}},
		{apart, []int{0, 1, 2, 3, 4}},
		// Numbers that are no items.
		{diamond, []int{0, 1, 2, 4}},
		{diamond, []int{-1, 0, 1, 2}},
		{diamond, []int{0, 1, 2, 3, 4}},
		{diamond, []int{0, 1, 2, 67}},
		{apart, []int{0, 1, 2, 3, 4, 6}},
		{apart, []int{0, 1, 2, 3, 4, 5, 6}},
		// An item is behind one above it.
		{diamond, []int{3, 2, 1, 0}},
		{diamond, []int{1, 0, 2, 3}},
		{diamond, []int{0, 1, 3, 2}},
		{diamond, []int{3, 0, 1, 2}},
		{[]int{32, 0, 0, 0, 0, 0}, []int{5, 1, 2, 3, 4, 0}},
	}
	for _, c := range cases {
		checkNoLine(t, c.up, c.list)
	}
}

func checkNoLine(t *testing.T, up []int, list []int) {
	t.Helper()
	if impl.IsLine(up, list) {
		t.Errorf("IsLine(%v, %v) holds", up, list)
	}
	if got := impl.LineRank(up, list); got != -1 {
		t.Errorf("LineRank(%v, %v) = %d", up, list, got)
	}
}

// The lists also have numbers one below and one above the items that there are.
func TestIsLineAndLineRankOfAllShortLists(t *testing.T) {
	for n := range 5 {
		for _, up := range ordersOf(n) {
			above := relationOf(up)
			rank := 0
			for list := range lists(n, -1, n) {
				if !above.isLine(list) {
					checkNoLine(t, up, list)
					continue
				}
				if got := impl.LineRank(up, list); got != rank || !impl.IsLine(up, list) {
					t.Fatalf("LineRank(%v, %v) = %d, not %d; IsLine = %v", up, list, got, rank, impl.IsLine(up, list))
				}
				rank++
			}
		}
	}
}

func TestIsLineAndLineRankOfAllArrangements(t *testing.T) {
	for _, up := range lineOrders() {
		above := relationOf(up)
		rank := 0
		for _, list := range arrangements(len(up)) {
			if !above.isLine(list) {
				checkNoLine(t, up, list)
				continue
			}
			if got := impl.LineRank(up, list); got != rank || !impl.IsLine(up, list) {
				t.Fatalf("LineRank(%v, %v) = %d, not %d; IsLine = %v", up, list, got, rank, impl.IsLine(up, list))
			}
			rank++
		}
	}
}

func TestLinesWithOneNumberChangedOrMore(t *testing.T) {
	for _, up := range lineOrders() {
		line := relationOf(up).lines()[0]
		for _, bad := range badItems(len(up)) {
			checkNoLine(t, up, append(slices.Clone(line), bad))
			checkNoLine(t, up, append([]int{bad}, line...))
			for at := range line {
				list := slices.Clone(line)
				list[at] = bad
				checkNoLine(t, up, list)
			}
		}
		for at, item := range line {
			checkNoLine(t, up, append(slices.Clone(line), item))
			checkNoLine(t, up, slices.Delete(slices.Clone(line), at, at+1))
		}
	}
}

func TestLineAt(t *testing.T) {
	cases := []struct {
		up   []int
		rank int
		want []int
	}{
		{nil, 0, nil},
		{[]int{0}, 0, []int{0}},
		{[]int{0, 0}, 1, []int{1, 0}},
		{[]int{0, 1, 3}, 0, []int{2, 1, 0}},
		{[]int{14, 8, 8, 0}, 1, []int{0, 2, 1, 3}},
		{[]int{2, 0, 10, 0}, 1, []int{0, 2, 3, 1}},
		{[]int{2, 0, 10, 0}, 4, []int{2, 3, 0, 1}},
		{make([]int, 6), 0, []int{0, 1, 2, 3, 4, 5}},
		{make([]int, 6), 378, []int{3, 0, 5, 1, 2, 4}},
		{make([]int, 6), 719, []int{5, 4, 3, 2, 1, 0}},
	}
	for _, c := range cases {
		if line, ok := impl.LineAt(c.up, c.rank); !ok || !same(line, c.want) {
			t.Errorf("LineAt(%v, %d) = %v, %v, not %v", c.up, c.rank, line, ok, c.want)
		}
	}
}

func TestLineAtByItsWords(t *testing.T) {
	for _, up := range lineOrders() {
		lines := relationOf(up).lines()
		for rank, want := range lines {
			if line, ok := impl.LineAt(up, rank); !ok || !same(line, want) {
				t.Fatalf("LineAt(%v, %d) = %v, %v, not %v", up, rank, line, ok, want)
			}
		}
		for _, rank := range badRanks(len(lines)) {
			checkNoLineAt(t, up, rank)
		}
	}
}

func checkNoLineAt(t *testing.T, up []int, rank int) {
	t.Helper()
	if line, ok := impl.LineAt(up, rank); ok || len(line) != 0 {
		t.Fatalf("LineAt(%v, %d) = %v, %v", up, rank, line, ok)
	}
}

func TestFirstChance(t *testing.T) {
	zigzag := []int{2, 0, 10, 0}
	cases := []struct {
		up   []int
		a, b int
		want impl.Frac
	}{
		{[]int{0, 0}, 0, 1, impl.Frac{Up: 1, Down: 2}},
		{[]int{0, 0}, 1, 0, impl.Frac{Up: 1, Down: 2}},
		{[]int{2, 0}, 0, 1, impl.Frac{Up: 1, Down: 1}},
		{[]int{2, 0}, 1, 0, impl.Frac{Up: 0, Down: 1}},
		{zigzag, 0, 3, impl.Frac{Up: 4, Down: 5}},
		{zigzag, 3, 0, impl.Frac{Up: 1, Down: 5}},
		{zigzag, 0, 2, impl.Frac{Up: 2, Down: 5}},
		{zigzag, 1, 0, impl.Frac{Up: 0, Down: 1}},
		{zigzag, 2, 1, impl.Frac{Up: 1, Down: 1}},
		{[]int{14, 8, 8, 0}, 1, 2, impl.Frac{Up: 1, Down: 2}},
		{[]int{14, 8, 8, 0}, 0, 3, impl.Frac{Up: 1, Down: 1}},
		{[]int{2, 0, 0}, 0, 2, impl.Frac{Up: 2, Down: 3}},
		{[]int{6, 4, 0, 0}, 1, 3, impl.Frac{Up: 1, Down: 2}},
		{make([]int, 6), 4, 5, impl.Frac{Up: 1, Down: 2}},
		{[]int{62, 60, 56, 48, 32, 0}, 5, 0, impl.Frac{Up: 0, Down: 1}},
	}
	for _, c := range cases {
		if got, ok := impl.FirstChance(c.up, c.a, c.b); !ok || got != c.want {
			t.Errorf("FirstChance(%v, %d, %d) = %v, %v, not %v", c.up, c.a, c.b, got, ok, c.want)
		}
	}
}

func TestFirstChanceByItsWords(t *testing.T) {
	for _, up := range lineOrders() {
		lines := relationOf(up).lines()
		for a := range up {
			for b := range up {
				if a == b {
					checkNoChance(t, up, a, b)
					continue
				}
				ahead := 0
				for _, line := range lines {
					if slices.Index(line, a) < slices.Index(line, b) {
						ahead++
					}
				}
				if got, ok := impl.FirstChance(up, a, b); !ok || !isFrac(got, ahead, len(lines)) {
					t.Fatalf("FirstChance(%v, %d, %d) = %v, %v, not %d of %d", up, a, b, got, ok, ahead, len(lines))
				}
			}
		}
	}
}

func TestFirstChanceOfItemsThatAreNotThere(t *testing.T) {
	for _, up := range lineOrders() {
		for _, bad := range badItems(len(up)) {
			checkNoChance(t, up, bad, bad)
			checkNoChance(t, up, bad, 0)
			checkNoChance(t, up, 0, bad)
			checkNoChance(t, up, bad, len(up)-1)
			checkNoChance(t, up, len(up)-1, bad)
		}
	}
	checkNoChance(t, nil, 0, 0)
	checkNoChance(t, nil, 0, 1)
	checkNoChance(t, []int{0}, 0, 0)
	checkNoChance(t, []int{0}, 0, 1)
}

func checkNoChance(t *testing.T, up []int, a int, b int) {
	t.Helper()
	if got, ok := impl.FirstChance(up, a, b); ok || got != (impl.Frac{}) {
		t.Fatalf("FirstChance(%v, %d, %d) = %v, %v", up, a, b, got, ok)
	}
}

// Promise 16.
func TestLinesAreCountedByRanks(t *testing.T) {
	for _, up := range lineOrders() {
		count := impl.CountLines(up)
		if line, ok := impl.LineAt(up, count-1); !ok || len(line) != len(up) {
			t.Fatalf("CountLines(%v) = %d, but the last line is %v, %v", up, count, line, ok)
		}
		checkNoLineAt(t, up, count)
		if dual := impl.DualOf(up); impl.CountLines(dual) != count {
			t.Fatalf("CountLines(%v) = %d, but %d turned round", up, count, impl.CountLines(dual))
		}
	}
}

// Promise 17.
func TestAllLinesStandByTheirRanks(t *testing.T) {
	for _, up := range lineOrders() {
		if len(up) > impl.MaxTried {
			continue
		}
		lines := impl.LinesOf(up)
		if len(lines) != impl.CountLines(up) {
			t.Fatalf("LinesOf(%v) are %d, CountLines = %d", up, len(lines), impl.CountLines(up))
		}
		for i, line := range lines {
			if !impl.IsLine(up, line) || impl.LineRank(up, line) != i {
				t.Fatalf("%v at %d of %v: IsLine = %v, LineRank = %d", line, i, up, impl.IsLine(up, line), impl.LineRank(up, line))
			}
		}
	}
}

// Promises 18 and 19.
func TestLinesGoBothWaysAndRanksFindThemAgain(t *testing.T) {
	for _, up := range lineOrders() {
		dual := impl.DualOf(up)
		count, found := impl.CountLines(up), 0
		for _, list := range arrangements(len(up)) {
			if !impl.IsLine(up, list) {
				continue
			}
			found++
			backwards := slices.Clone(list)
			slices.Reverse(backwards)
			if !impl.IsLine(dual, backwards) {
				t.Fatalf("%v is a line of %v, but none backwards of %v", list, up, dual)
			}
			rank := impl.LineRank(up, list)
			if line, ok := impl.LineAt(up, rank); !ok || !same(line, list) || rank >= count {
				t.Fatalf("LineRank(%v, %v) = %d of %d, where there is %v, %v", up, list, rank, count, line, ok)
			}
		}
		if found != count {
			t.Fatalf("IsLine holds of %d lists for %v, CountLines = %d", found, up, count)
		}
	}
}

// Promise 20.
func TestEachRankHasALine(t *testing.T) {
	for _, up := range lineOrders() {
		for rank := range impl.CountLines(up) {
			line, ok := impl.LineAt(up, rank)
			if !ok || !impl.IsLine(up, line) || impl.LineRank(up, line) != rank {
				t.Fatalf("LineAt(%v, %d) = %v, %v: IsLine = %v, LineRank = %d", up, rank, line, ok, impl.IsLine(up, line), impl.LineRank(up, line))
			}
		}
	}
}

// Promise 21.
func TestOneOfBothIsFirst(t *testing.T) {
	for _, up := range lineOrders() {
		above := relationOf(up)
		for a := range up {
			for b := range a {
				there, ok1 := impl.FirstChance(up, a, b)
				back, ok2 := impl.FirstChance(up, b, a)
				if !ok1 || !ok2 || there.Down != back.Down || there.Up+back.Up != there.Down {
					t.Fatalf("FirstChance(%v, ..) of %d and %d = %v, %v and %v, %v", up, a, b, there, ok1, back, ok2)
				}
				all := impl.Frac{Up: 1, Down: 1}
				if above[a][b] && there != all || above[b][a] && back != all {
					t.Fatalf("FirstChance(%v, ..) of %d and %d = %v and %v", up, a, b, there, back)
				}
			}
		}
	}
}

// Promise 22.
func TestForestsAreCountedAtOnce(t *testing.T) {
	forests := 0
	for _, up := range lineOrders() {
		if got := impl.ForestLines(up); relationOf(up).isForest() {
			forests++
			if got != impl.CountLines(up) {
				t.Fatalf("ForestLines(%v) = %d, CountLines = %d", up, got, impl.CountLines(up))
			}
		} else if got != -1 {
			t.Fatalf("ForestLines(%v) = %d, but it is no forest", up, got)
		}
	}
	if forests < 100 {
		t.Errorf("only %d forests", forests)
	}
}

func TestBadOrdersHaveFixedResultsOfLines(t *testing.T) {
	for _, up := range badOrders() {
		if got := impl.CountLines(up); got != -1 {
			t.Errorf("CountLines(%v) = %d", up, got)
		}
		if got := impl.ForestLines(up); got != -1 {
			t.Errorf("ForestLines(%v) = %d", up, got)
		}
		if got := impl.LinesOf(up); len(got) != 0 {
			t.Errorf("LinesOf(%v) = %v", up, got)
		}
		forwards := make([]int, len(up))
		for i := range forwards {
			forwards[i] = i
		}
		backwards := slices.Clone(forwards)
		slices.Reverse(backwards)
		for _, list := range [][]int{nil, {0}, {0, 1}, forwards, backwards} {
			checkNoLine(t, up, list)
		}
		for _, rank := range append(badRanks(1), 0, 2) {
			checkNoLineAt(t, up, rank)
		}
		for a := range 7 {
			checkNoChance(t, up, a, 0)
			checkNoChance(t, up, 0, a)
			checkNoChance(t, up, a, -1)
		}
	}
}

func TestListsAreNotWrittenIntoByLines(t *testing.T) {
	for _, up := range append(lineOrders(), badOrders()...) {
		list := roomy(up)
		impl.CountLines(list)
		impl.LinesOf(list)
		impl.LineAt(list, 1)
		impl.FirstChance(list, 0, 1)
		impl.FirstChance(list, len(list)-1, 0)
		impl.ForestLines(list)
		for _, line := range [][]int{nil, {0, 1}, {3, 2, 1, 0}, {0, 1, 2, 3, 4, 5}, {5, 4, 3, 2, 1, 0}, {0, 0, -1, 9}} {
			checkKept(t, list, line)
		}
		if impl.ValidOrder(up) {
			checkKept(t, list, relationOf(up).lines()[0])
		}
		if !roomIsKept(list, up) {
			t.Fatalf("%v is %v after the calls", up, list)
		}
	}
}

// checkKept checks that a list that may be a line is not written into.
func checkKept(t *testing.T, up []int, list []int) {
	t.Helper()
	line := roomy(list)
	impl.IsLine(up, line)
	impl.LineRank(up, line)
	if !roomIsKept(line, list) {
		t.Fatalf("%v is %v after the calls for %v", list, line, up)
	}
}

func TestLinesShareNoMemory(t *testing.T) {
	for _, up := range lineOrders() {
		if impl.CountLines(up) <= 24 {
			checkRowsShareNoMemory(t, "LinesOf", impl.LinesOf, up)
		}
		for _, rank := range []int{0, impl.CountLines(up) / 2, impl.CountLines(up) - 1} {
			checkSharesNoMemory(t, "LineAt", func(list []int) []int {
				line, _ := impl.LineAt(list, rank)
				return line
			}, up)
		}
	}
}
