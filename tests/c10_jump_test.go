package tests

import (
	"runtime"
	"slices"
	"sync"
	"testing"
	"testing/synctest"

	"loop.example/ordersthatbranch/impl"
)

// allArrangements has for each number of items all arrangements of them. Its lists are never written into.
var allArrangements = sync.OnceValue(func() [][][]int {
	all := make([][][]int, 7)
	for n := range all {
		all[n] = arrangements(n)
	}
	return all
})

// arrangedLines returns the same as lines, out of the arrangements that are kept.
func (r relation) arrangedLines() [][]int {
	want := 0
	for _, pair := range r.pairs() {
		want += power(8*pair[0] + pair[1])
	}
	var lines [][]int
	for i, pairs := range arrangedPairs()[len(r)] {
		if want&^pairs == 0 {
			lines = append(lines, allArrangements()[len(r)][i])
		}
	}
	return lines
}

// jumps returns how many items of the line, without the first one, are not above the one just ahead.
func (r relation) jumps(line []int) int {
	count := 0
	for i, item := range line {
		if i > 0 && !r[line[i-1]][item] {
			count++
		}
	}
	return count
}

// jumpCounts returns jumps of all lines.
func (r relation) jumpCounts() []int {
	var counts []int
	for _, line := range r.arrangedLines() {
		counts = append(counts, r.jumps(line))
	}
	return counts
}

// freeBehind returns the items, from 0 up, that are not in the beginning of a line, but all below them.
func (r relation) freeBehind(beginning []int) []int {
	var free []int
	for item := range r {
		isFree := !slices.Contains(beginning, item)
		for low := range r {
			isFree = isFree && (!r[low][item] || slices.Contains(beginning, low))
		}
		if isFree {
			free = append(free, item)
		}
	}
	return free
}

// greedyLine returns the line that goes up as long as it can, by the document's words.
func (r relation) greedyLine() []int {
	var line []int
	for i := range r {
		free := r.freeBehind(line)
		next := free[0]
		if i > 0 {
			isAbove := func(item int) bool { return r[line[i-1]][item] }
			if at := slices.IndexFunc(free, isAbove); at >= 0 {
				next = free[at]
			}
		}
		line = append(line, next)
	}
	return line
}

// nextPairs returns the pairs of an item and one next above it.
func (r relation) nextPairs() [][]int {
	var next [][]int
	for _, pair := range r.pairs() {
		isBetween := func(item int) bool { return r[pair[0]][item] && r[item][pair[1]] }
		if !slices.ContainsFunc(r.lacked(nil), isBetween) {
			next = append(next, pair)
		}
	}
	return next
}

// width returns how far apart two items of which one is next above the other one stand at most in the line.
func (r relation) width(line []int) int {
	width := 0
	for _, pair := range r.nextPairs() {
		width = max(width, slices.Index(line, pair[1])-slices.Index(line, pair[0]))
	}
	return width
}

// leastWidth returns the least width of all lines.
func (r relation) leastWidth() int {
	var widths []int
	for _, line := range r.arrangedLines() {
		widths = append(widths, r.width(line))
	}
	return slices.Min(widths)
}

// hasNoZigzag reports whether HasZigzag does not hold.
func hasNoZigzag(up []int) bool {
	return !impl.HasZigzag(up)
}

func TestArrangedLinesAreAllLines(t *testing.T) {
	for _, up := range goodOrders() {
		if above := relationOf(up); !sameRows(above.arrangedLines(), above.lines()) {
			t.Fatalf("lines of %v are %v, not %v", up, above.arrangedLines(), above.lines())
		}
	}
}

func TestJumpsOf(t *testing.T) {
	diamond, zigzag, pairs := []int{14, 8, 8, 0}, []int{2, 0, 10, 0}, []int{2, 0, 8, 0}
	cases := []struct {
		up, list []int
		want     int
	}{
		{nil, nil, 0},
		{[]int{}, []int{}, 0},
		{nil, []int{}, 0},
		{[]int{0}, []int{0}, 0},
		{[]int{2, 0}, []int{0, 1}, 0},
		{[]int{0, 1}, []int{1, 0}, 0},
		{[]int{0, 0}, []int{0, 1}, 1},
		{[]int{0, 0}, []int{1, 0}, 1},
		// Going up by more than one step is no jump.
		{[]int{6, 4, 0}, []int{0, 1, 2}, 0},
		{[]int{6, 0, 0}, []int{0, 1, 2}, 1},
		{[]int{6, 0, 0}, []int{0, 2, 1}, 1},
		{[]int{4, 4, 0}, []int{0, 1, 2}, 1},
		{[]int{4, 0, 0}, []int{0, 1, 2}, 2},
		{[]int{4, 0, 0}, []int{0, 2, 1}, 1},
		{[]int{4, 0, 0}, []int{1, 0, 2}, 1},
		{diamond, []int{0, 1, 2, 3}, 1},
		{diamond, []int{0, 2, 1, 3}, 1},
		{zigzag, []int{0, 2, 1, 3}, 2},
		{zigzag, []int{0, 2, 3, 1}, 2},
		{zigzag, []int{2, 0, 1, 3}, 2},
		{zigzag, []int{2, 0, 3, 1}, 3},
		{zigzag, []int{2, 3, 0, 1}, 1},
		{pairs, []int{0, 1, 2, 3}, 1},
		{pairs, []int{0, 2, 1, 3}, 3},
		{pairs, []int{0, 2, 3, 1}, 2},
		{pairs, []int{2, 3, 0, 1}, 1},
		{[]int{62, 60, 56, 48, 32, 0}, []int{0, 1, 2, 3, 4, 5}, 0},
		{[]int{0, 1, 3, 7, 15, 31}, []int{5, 4, 3, 2, 1, 0}, 0},
		{make([]int, 6), []int{3, 0, 5, 1, 2, 4}, 5},
		{[]int{2, 0, 8, 0, 32, 0}, []int{0, 1, 2, 3, 4, 5}, 2},
		{[]int{2, 0, 8, 0, 32, 0}, []int{0, 2, 4, 5, 1, 3}, 4},
		{[]int{48, 40, 24, 0, 0, 0}, []int{0, 1, 5, 2, 3, 4}, 3},
		{[]int{48, 40, 24, 0, 0, 0}, []int{0, 1, 2, 5, 4, 3}, 5},
	}
	for _, c := range cases {
		if got := impl.JumpsOf(c.up, c.list); got != c.want {
			t.Errorf("JumpsOf(%v, %v) = %d, not %d", c.up, c.list, got, c.want)
		}
	}
}

func TestJumpsOfByItsWords(t *testing.T) {
	for _, up := range seriesOrders() {
		above := relationOf(up)
		for _, line := range above.arrangedLines() {
			if got, want := impl.JumpsOf(up, line), above.jumps(line); got != want {
				t.Fatalf("JumpsOf(%v, %v) = %d, not %d", up, line, got, want)
			}
		}
	}
}

func checkNoJumpsOf(t *testing.T, up []int, list []int) {
	t.Helper()
	if got := impl.JumpsOf(up, list); got != -1 {
		t.Fatalf("JumpsOf(%v, %v) = %d", up, list, got)
	}
}

func TestJumpsOfListsThatAreNoLines(t *testing.T) {
	diamond, apart := []int{14, 8, 8, 0}, make([]int, 6)
	cases := []struct{ up, list []int }{
		{nil, []int{0}},
		{nil, []int{-1}},
		{[]int{0}, nil},
		{[]int{0}, []int{}},
		{[]int{0}, []int{1}},
		{[]int{0}, []int{-1}},
		{[]int{0}, []int{0, 0}},
		// An item twice.
		{[]int{0, 0}, []int{1, 1}},
		{diamond, []int{0, 1, 1, 3}},
		{diamond, []int{0, 1, 2, 3, 3}},
		{apart, []int{0, 1, 2, 3, 4, 4}},
		// An item is missing.
		{diamond, nil},
		{diamond, []int{0, 1, 3}},
		{apart, []int{0, 1, 2, 3, 4}},
		// Numbers that are no items.
		{diamond, []int{0, 1, 2, 4}},
		{diamond, []int{-1, 0, 1, 2}},
		{diamond, []int{0, 1, 2, 67}},
		{apart, []int{0, 1, 2, 3, 4, 6}},
		{apart, []int{0, 1, 2, 3, 4, 5, 6}},
		// An item is behind one above it.
		{diamond, []int{3, 2, 1, 0}},
		{diamond, []int{1, 0, 2, 3}},
		{diamond, []int{0, 1, 3, 2}},
		{[]int{2, 0, 8, 0}, []int{1, 0, 2, 3}},
		{[]int{32, 0, 0, 0, 0, 0}, []int{5, 1, 2, 3, 4, 0}},
		// Many numbers.
		{diamond, make([]int, 1000)},
		{apart, slices.Repeat([]int{0, 1, 2, 3, 4, 5}, 100)},
	}
	for _, c := range cases {
		checkNoJumpsOf(t, c.up, c.list)
	}
}

// The lists also have numbers one below and one above the items that there are.
func TestJumpsOfAllShortLists(t *testing.T) {
	for n := range 5 {
		for _, up := range ordersOf(n) {
			above := relationOf(up)
			for list := range lists(n, -1, n) {
				if !above.isLine(list) {
					checkNoJumpsOf(t, up, list)
				} else if got, want := impl.JumpsOf(up, list), above.jumps(list); got != want {
					t.Fatalf("JumpsOf(%v, %v) = %d, not %d", up, list, got, want)
				}
			}
		}
	}
}

func TestJumpsOfAllOtherArrangements(t *testing.T) {
	for _, up := range lineOrders() {
		above := relationOf(up)
		for _, list := range allArrangements()[len(up)] {
			if !above.isLine(list) {
				checkNoJumpsOf(t, up, list)
			}
		}
	}
}

func TestJumpsOfLinesWithOneNumberChangedOrMore(t *testing.T) {
	for _, up := range lineOrders() {
		line := relationOf(up).arrangedLines()[0]
		for _, bad := range badItems(len(up)) {
			checkNoJumpsOf(t, up, append(slices.Clone(line), bad))
			checkNoJumpsOf(t, up, append([]int{bad}, line...))
			for at := range line {
				list := slices.Clone(line)
				list[at] = bad
				checkNoJumpsOf(t, up, list)
			}
		}
		for at, item := range line {
			checkNoJumpsOf(t, up, append(slices.Clone(line), item))
			checkNoJumpsOf(t, up, slices.Delete(slices.Clone(line), at, at+1))
		}
	}
}

func TestLeastJumpsAndMostJumps(t *testing.T) {
	cases := []struct {
		up          []int
		least, most int
	}{
		{nil, 0, 0},
		{[]int{}, 0, 0},
		{[]int{0}, 0, 0},
		{[]int{2, 0}, 0, 0},
		{[]int{0, 1}, 0, 0},
		{[]int{6, 4, 0}, 0, 0},
		{[]int{62, 60, 56, 48, 32, 0}, 0, 0},
		{[]int{0, 1, 3, 7, 15, 31}, 0, 0},
		// No item is above another one: all lines jump to each item.
		{[]int{0, 0}, 1, 1},
		{[]int{0, 0, 0}, 2, 2},
		{make([]int, 5), 4, 4},
		{make([]int, 6), 5, 5},
		{[]int{6, 0, 0}, 1, 1},
		{[]int{4, 4, 0}, 1, 1},
		{[]int{2, 0, 0}, 1, 2},
		{[]int{14, 8, 8, 0}, 1, 1},
		{[]int{2, 0, 10, 0}, 1, 3},
		{[]int{2, 0, 8, 0}, 1, 3},
		{[]int{12, 12, 0, 0}, 2, 2},
		{[]int{30, 16, 16, 16, 0}, 2, 2},
		{[]int{2, 0, 8, 0, 32, 0}, 2, 5},
		{[]int{56, 56, 56, 0, 0, 0}, 4, 4},
		// Three chains are enough, but not two jumps.
		{[]int{48, 40, 24, 0, 0, 0}, 3, 5},
		// Lines that end with another item have more, or less.
		{[]int{6, 4, 0, 0}, 1, 2},
		{[]int{0, 12, 8, 0}, 1, 2},
	}
	for _, c := range cases {
		if least, most := impl.LeastJumps(c.up), impl.MostJumps(c.up); least != c.least || most != c.most {
			t.Errorf("LeastJumps and MostJumps of %v = %d and %d, not %d and %d", c.up, least, most, c.least, c.most)
		}
	}
}

func TestLeastJumpsAndMostJumpsByTheirWords(t *testing.T) {
	for _, up := range seriesOrders() {
		counts := relationOf(up).jumpCounts()
		if got, want := impl.LeastJumps(up), slices.Min(counts); got != want {
			t.Fatalf("LeastJumps(%v) = %d, not %d", up, got, want)
		}
		if got, want := impl.MostJumps(up), slices.Max(counts); got != want {
			t.Fatalf("MostJumps(%v) = %d, not %d", up, got, want)
		}
	}
}

func TestGreedyLine(t *testing.T) {
	cases := []struct{ up, want []int }{
		{nil, nil},
		{[]int{}, nil},
		{[]int{0}, []int{0}},
		{[]int{2, 0}, []int{0, 1}},
		{[]int{0, 1}, []int{1, 0}},
		{[]int{6, 4, 0}, []int{0, 1, 2}},
		{[]int{62, 60, 56, 48, 32, 0}, []int{0, 1, 2, 3, 4, 5}},
		{[]int{0, 1, 3, 7, 15, 31}, []int{5, 4, 3, 2, 1, 0}},
		{[]int{0, 0}, []int{0, 1}},
		{make([]int, 6), []int{0, 1, 2, 3, 4, 5}},
		// It goes up past lesser items that are free.
		{[]int{4, 0, 0}, []int{0, 2, 1}},
		{[]int{16, 0, 0, 0, 0}, []int{0, 4, 1, 2, 3}},
		{[]int{0, 4, 0}, []int{0, 1, 2}},
		{[]int{2, 0, 8, 0}, []int{0, 1, 2, 3}},
		{[]int{8, 4, 0, 0}, []int{0, 3, 1, 2}},
		{[]int{32, 16, 8, 0, 0, 0}, []int{0, 5, 1, 4, 2, 3}},
		// Of more that are free above, the first one is next.
		{[]int{6, 0, 0}, []int{0, 1, 2}},
		{[]int{14, 8, 8, 0}, []int{0, 1, 2, 3}},
		{[]int{30, 16, 16, 16, 0}, []int{0, 1, 2, 3, 4}},
		{[]int{0, 1, 1, 7, 7, 7}, []int{3, 4, 5, 1, 2, 0}},
		// What is above waits for all below it.
		{[]int{4, 4, 0}, []int{0, 1, 2}},
		{[]int{2, 0, 10, 0}, []int{0, 2, 1, 3}},
		{[]int{10, 0, 2, 0}, []int{0, 3, 2, 1}},
		{[]int{48, 40, 24, 0, 0, 0}, []int{0, 1, 5, 2, 3, 4}},
		{[]int{56, 56, 56, 0, 0, 0}, []int{0, 1, 2, 3, 4, 5}},
	}
	for _, c := range cases {
		if got := impl.GreedyLine(c.up); !same(got, c.want) {
			t.Errorf("GreedyLine(%v) = %v, not %v", c.up, got, c.want)
		}
	}
}

func TestGreedyLineByItsWords(t *testing.T) {
	for _, up := range seriesOrders() {
		if got, want := impl.GreedyLine(up), relationOf(up).greedyLine(); !same(got, want) {
			t.Fatalf("GreedyLine(%v) = %v, not %v", up, got, want)
		}
	}
}

func TestWideOf(t *testing.T) {
	cases := []struct {
		up   []int
		want int
	}{
		{nil, 0},
		{[]int{}, 0},
		{[]int{0}, 0},
		// No item is above another one.
		{[]int{0, 0}, 0},
		{make([]int, 4), 0},
		{make([]int, 5), 0},
		{[]int{2, 0}, 1},
		{[]int{0, 1}, 1},
		{[]int{2, 0, 0}, 1},
		{[]int{4, 0, 0}, 1},
		{[]int{6, 0, 0}, 2},
		{[]int{4, 4, 0}, 2},
		// Items above others, but not next above them, may stand farther apart.
		{[]int{6, 4, 0}, 1},
		{[]int{30, 28, 24, 16, 0}, 1},
		{[]int{0, 1, 3, 7, 15}, 1},
		{[]int{14, 8, 8, 0}, 2},
		{[]int{2, 0, 10, 0}, 2},
		{[]int{2, 0, 8, 0}, 1},
		{[]int{12, 12, 0, 0}, 3},
		{[]int{30, 16, 16, 16, 0}, 3},
		{[]int{30, 0, 0, 0, 0}, 4},
		{[]int{16, 16, 16, 16, 0}, 4},
		{[]int{28, 28, 0, 0, 0}, 4},
		{[]int{6, 0, 0, 16, 0}, 2},
		// One item more than all lines are tried of.
		{make([]int, 6), -1},
		{[]int{62, 60, 56, 48, 32, 0}, -1},
		{[]int{0, 1, 3, 7, 15, 31}, -1},
		{[]int{56, 56, 56, 0, 0, 0}, -1},
		{[]int{48, 40, 24, 0, 0, 0}, -1},
	}
	for _, c := range cases {
		if got := impl.WideOf(c.up); got != c.want {
			t.Errorf("WideOf(%v) = %d, not %d", c.up, got, c.want)
		}
	}
}

func TestWideOfByItsWords(t *testing.T) {
	for _, up := range seriesOrders() {
		want := -1
		if len(up) <= impl.MaxTried {
			want = relationOf(up).leastWidth()
		}
		if got := impl.WideOf(up); got != want {
			t.Fatalf("WideOf(%v) = %d, not %d", up, got, want)
		}
	}
}

// Promise 58.
func TestJumpsAreSeenBothWays(t *testing.T) {
	for _, up := range seriesOrders() {
		dual, least, most := impl.DualOf(up), impl.LeastJumps(up), impl.MostJumps(up)
		for _, line := range relationOf(up).arrangedLines() {
			jumps := impl.JumpsOf(up, line)
			if jumps < least || jumps > most {
				t.Fatalf("JumpsOf(%v, %v) = %d, LeastJumps = %d, MostJumps = %d", up, line, jumps, least, most)
			}
			backwards := slices.Clone(line)
			slices.Reverse(backwards)
			if got := impl.JumpsOf(dual, backwards); got != jumps {
				t.Fatalf("JumpsOf(%v, %v) = %d, but %d backwards", up, line, jumps, got)
			}
		}
	}
}

// Promise 59.
func TestChainsNeedJumpsBetween(t *testing.T) {
	for _, up := range seriesOrders() {
		least := impl.LeastJumps(up)
		if chains := impl.FewestChains(up); least < chains-1 {
			t.Fatalf("LeastJumps(%v) = %d, FewestChains = %d", up, least, chains)
		}
		if jumps := impl.JumpsOf(up, impl.GreedyLine(up)); least > jumps || jumps < 0 {
			t.Fatalf("LeastJumps(%v) = %d, JumpsOf GreedyLine = %d", up, least, jumps)
		}
		if dual := impl.LeastJumps(impl.DualOf(up)); dual != least {
			t.Fatalf("LeastJumps(%v) = %d, but %d turned round", up, least, dual)
		}
	}
}

// Promise 60.
func TestJumpsAreFewerThanItems(t *testing.T) {
	for _, up := range seriesOrders() {
		most := impl.MostJumps(up)
		if least := impl.LeastJumps(up); most < least {
			t.Fatalf("MostJumps(%v) = %d, LeastJumps = %d", up, most, least)
		}
		if most > max(len(up)-1, 0) || most < 0 {
			t.Fatalf("MostJumps(%v) = %d", up, most)
		}
		if dual := impl.MostJumps(impl.DualOf(up)); dual != most {
			t.Fatalf("MostJumps(%v) = %d, but %d turned round", up, most, dual)
		}
	}
}

// Promise 61.
func TestGoingUpIsALine(t *testing.T) {
	for _, up := range seriesOrders() {
		if line := impl.GreedyLine(up); !impl.IsLine(up, line) {
			t.Fatalf("GreedyLine(%v) = %v is no line", up, line)
		}
	}
	for _, up := range spanOrders(t, hasNoZigzag) {
		line := impl.GreedyLine(up)
		if jumps, least := impl.JumpsOf(up, line), impl.LeastJumps(up); jumps != least {
			t.Fatalf("GreedyLine(%v) = %v has %d jumps, LeastJumps = %d", up, line, jumps, least)
		}
	}
}

// With a zigzag the line may have more jumps, and may have as few.
func TestGoingUpWithAZigzag(t *testing.T) {
	if up := []int{2, 0, 10, 0}; impl.JumpsOf(up, impl.GreedyLine(up)) != 2 || impl.LeastJumps(up) != 1 {
		t.Errorf("GreedyLine(%v) = %v", up, impl.GreedyLine(up))
	}
	if up := []int{10, 0, 2, 0}; impl.JumpsOf(up, impl.GreedyLine(up)) != 1 || impl.LeastJumps(up) != 1 {
		t.Errorf("GreedyLine(%v) = %v", up, impl.GreedyLine(up))
	}
	more, asFew := 0, 0
	for _, up := range spanOrders(t, impl.HasZigzag) {
		if impl.JumpsOf(up, impl.GreedyLine(up)) > impl.LeastJumps(up) {
			more++
		} else {
			asFew++
		}
	}
	if more == 0 || asFew == 0 {
		t.Errorf("%d orders with a zigzag have more jumps going up, %d as few", more, asFew)
	}
}

// Promise 62.
func TestWidthsTurnRound(t *testing.T) {
	for _, up := range seriesOrders() {
		if len(up) > impl.MaxTried {
			continue
		}
		wide, covers := impl.WideOf(up), impl.CoversOf(up)
		if (wide == 0) != (len(covers) == 0) {
			t.Fatalf("WideOf(%v) = %d, CoversOf = %v", up, wide, covers)
		}
		if wide > max(len(up)-1, 0) || wide < 0 {
			t.Fatalf("WideOf(%v) = %d", up, wide)
		}
		if dual := impl.WideOf(impl.DualOf(up)); dual != wide {
			t.Fatalf("WideOf(%v) = %d, but %d turned round", up, wide, dual)
		}
	}
}

func checkNoOrderOfJumps(t *testing.T, up []int) {
	t.Helper()
	if got := impl.LeastJumps(up); got != -1 {
		t.Errorf("LeastJumps(%v) = %d", up, got)
	}
	if got := impl.MostJumps(up); got != -1 {
		t.Errorf("MostJumps(%v) = %d", up, got)
	}
	if got := impl.GreedyLine(up); len(got) != 0 {
		t.Errorf("GreedyLine(%v) = %v", up, got)
	}
	if got := impl.WideOf(up); got != -1 {
		t.Errorf("WideOf(%v) = %d", up, got)
	}
	forwards := make([]int, len(up))
	for i := range forwards {
		forwards[i] = i
	}
	backwards := slices.Clone(forwards)
	slices.Reverse(backwards)
	for _, list := range [][]int{nil, {}, {0}, {1, 0}, forwards, backwards} {
		checkNoJumpsOf(t, up, list)
	}
}

func TestBadOrdersHaveFixedResultsOfJumps(t *testing.T) {
	for _, up := range badOrders() {
		checkNoOrderOfJumps(t, up)
	}
}

// Lists that would have lines if they were orders, and orders of one item more than there may be.
func TestListsThatAreNearlyOrdersOfJumps(t *testing.T) {
	for _, up := range [][]int{{2, 4, 0}, {2, 1, 0}, {6, 5, 3}, {6, 0, 8}, {6, 0, -1}, {-2, 0}, {14, 8, 8, 16}, {2, 4, 8, 0}, {62, 60, 56, 48, 32, 64}, {62, 60, 56, 48, 32, 0, 0}, {126, 124, 120, 112, 96, 64, 0}, {0, 1, 3, 7, 15, 31, 63}, make([]int, 7)} {
		checkNoOrderOfJumps(t, up)
	}
}

func TestListsAreNotWrittenIntoByJumps(t *testing.T) {
	for _, up := range append(shapedOrders(), badOrders()...) {
		list := roomy(up)
		callJumps(list)
		if !roomIsKept(list, up) {
			t.Fatalf("%v is %v after the calls", up, list)
		}
	}
}

// callJumps calls each function of the chapter.
func callJumps(up []int) {
	for _, list := range [][]int{nil, {0, 1}, {0, 1, 2, 3, 4, 5}, {5, 4, 3, 2, 1, 0}, {0, 0, -1, 9}} {
		impl.JumpsOf(up, list)
	}
	impl.JumpsOf(up, impl.GreedyLine(up))
	impl.LeastJumps(up)
	impl.MostJumps(up)
	impl.WideOf(up)
}

func TestListsOfJumpsAreNotWrittenInto(t *testing.T) {
	for _, up := range append(lineOrders(), badOrders()...) {
		all := [][]int{nil, {0}, {0, 1}, {0, 1, 2, 3, 4, 5}, {5, 4, 3, 2, 1, 0}, {0, 0, -1, 9}, make([]int, 100)}
		if impl.ValidOrder(up) {
			lines := relationOf(up).arrangedLines()
			all = append(all, lines[0], lines[len(lines)/2], lines[len(lines)-1])
		}
		for _, list := range all {
			line := roomy(list)
			impl.JumpsOf(up, line)
			if !roomIsKept(line, list) {
				t.Fatalf("%v is %v after JumpsOf for %v", list, line, up)
			}
		}
	}
}

func TestGreedyLineSharesNoMemory(t *testing.T) {
	for _, up := range shapedOrders() {
		checkSharesNoMemory(t, "GreedyLine", impl.GreedyLine, up)
	}
}

// A result that was kept from an earlier call would be that of the list as it was.
func TestJumpsAreOfTheListAsItIs(t *testing.T) {
	up, line := []int{2, 0, 8, 0}, []int{0, 1, 2, 3}
	if a, b, c, w := impl.LeastJumps(up), impl.MostJumps(up), impl.JumpsOf(up, line), impl.WideOf(up); a != 1 || b != 3 || c != 1 || w != 1 {
		t.Errorf("jumps of %v are %d to %d, %d of %v, WideOf = %d", up, a, b, c, line, w)
	}
	copy(up, []int{14, 12, 8, 0})
	if a, b, c, w := impl.LeastJumps(up), impl.MostJumps(up), impl.JumpsOf(up, line), impl.WideOf(up); a != 0 || b != 0 || c != 0 || w != 1 {
		t.Errorf("jumps of %v are %d to %d, %d of %v, WideOf = %d", up, a, b, c, line, w)
	}
	copy(up, make([]int, 4))
	copy(line, []int{3, 1, 0, 2})
	if a, b, c, w := impl.LeastJumps(up), impl.MostJumps(up), impl.JumpsOf(up, line), impl.WideOf(up); a != 3 || b != 3 || c != 3 || w != 0 {
		t.Errorf("jumps of %v are %d to %d, %d of %v, WideOf = %d", up, a, b, c, line, w)
	}
}

// The bubble is left only when all goroutines that were started in it have
// ended, and fails if one of them waits for ever.
func TestNothingRunsOnBehindJumps(t *testing.T) {
	for _, up := range append(namedOrders(), badOrders()...) {
		synctest.Test(t, func(t *testing.T) {
			callJumps(up)
		})
	}
}

func TestJumpsAreToldAtTheSameTime(t *testing.T) {
	before := runtime.GOMAXPROCS(0)
	defer runtime.GOMAXPROCS(before)
	for _, procs := range []int{1, 2, 8} {
		runtime.GOMAXPROCS(procs)
		var group sync.WaitGroup
		for _, up := range namedOrders() {
			counts := relationOf(up).jumpCounts()
			for range 8 {
				group.Go(func() {
					least, most := impl.LeastJumps(up), impl.MostJumps(up)
					if least != slices.Min(counts) || most != slices.Max(counts) {
						t.Errorf("LeastJumps and MostJumps of %v = %d and %d", up, least, most)
					}
				})
			}
		}
		group.Wait()
	}
}
