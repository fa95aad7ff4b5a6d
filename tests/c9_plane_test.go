package tests

import (
	"math"
	"slices"
	"sync"
	"testing"

	"loop.example/ordersthatbranch/impl"
)

// orderOfLines returns the order of lines, by the document's words.
func orderOfLines(n int, lines [][]int) []int {
	r := newRelation(n)
	for low := range n {
		for high := range n {
			r[low][high] = !slices.ContainsFunc(lines, func(line []int) bool {
				return slices.Index(line, high) <= slices.Index(line, low)
			})
		}
	}
	return r.sets()
}

// lineList is lines of n items.
type lineList struct {
	n     int
	lines [][]int
}

// broadLines returns as many lists of lines of n items, each of at most so many lines, by a fixed short rule.
func broadLines(many int, n int, most int) []lineList {
	var all []lineList
	arranged := arrangements(n)
	state := uint32(n)
	next := func(below int) int {
		state = state*1664525 + 1013904223
		return int(state>>8) % below
	}
	for range many {
		var lines [][]int
		for range 1 + next(most) {
			lines = append(lines, slices.Clone(arranged[next(len(arranged))]))
		}
		all = append(all, lineList{n, lines})
	}
	return all
}

// lineLists are lists of lines: all short ones of few items, and others of more items and more lines.
var lineLists = sync.OnceValue(func() []lineList {
	var all []lineList
	for _, c := range []struct{ n, many int }{{0, 3}, {1, 3}, {2, 4}, {3, 3}, {4, 2}, {5, 1}, {6, 1}} {
		arranged := arrangements(c.n)
		for many := range c.many {
			for chosen := range lists(many+1, 0, len(arranged)-1) {
				var lines [][]int
				for _, at := range chosen {
					lines = append(lines, slices.Clone(arranged[at]))
				}
				all = append(all, lineList{c.n, lines})
			}
		}
	}
	for n := range 7 {
		all = append(all, lineList{n, arrangements(n)}, lineList{n, slices.Repeat(arrangements(n)[:1], 1000)})
	}
	for _, n := range []int{4, 5, 6} {
		all = append(all, broadLines(500, n, 4)...)
		all = append(all, broadLines(50, n, 20)...)
	}
	return all
})

// pairsBehind returns the pairs of which the second item is behind the first one in the list, as a sum of 2 to each.
func pairsBehind(list []int) int {
	pairs := 0
	for i, ahead := range list {
		for _, behind := range list[i+1:] {
			pairs += power(8*ahead + behind)
		}
	}
	return pairs
}

// arrangedPairs has for each number of items pairsBehind of all arrangements of them.
var arrangedPairs = sync.OnceValue(func() [][]int {
	all := make([][]int, 7)
	for n := range all {
		for _, list := range arrangements(n) {
			all[n] = append(all[n], pairsBehind(list))
		}
	}
	return all
})

// haveInCommon reports whether some list of so many of the lines, told by their pairs, has just the wanted ones of the pairs in common.
func haveInCommon(lines []int, many int, pairs int, want int) bool {
	if many == 0 {
		return pairs == want
	}
	return slices.ContainsFunc(lines, func(line int) bool {
		return haveInCommon(lines, many-1, pairs&line, want)
	})
}

// fewestLines returns the least number of lines that tell the order, by the document's words.
func (r relation) fewestLines() int {
	want := 0
	for _, pair := range r.pairs() {
		want += power(8*pair[0] + pair[1])
	}
	var lines []int
	for _, pairs := range arrangedPairs()[len(r)] {
		if want&^pairs == 0 {
			lines = append(lines, pairs)
		}
	}
	if len(lines) > 60 {
		return -1
	}
	for many := 1; many <= 3; many++ {
		if haveInCommon(lines, many, -1, want) {
			return many
		}
	}
	return -1
}

// pairsApart returns the pairs of items, the lesser one first, of which none is above the other one.
func (r relation) pairsApart() [][]int {
	var pairs [][]int
	for b := range r {
		for a := range b {
			if !r[a][b] && !r[b][a] {
				pairs = append(pairs, []int{a, b})
			}
		}
	}
	return pairs
}

// side returns the first order of just the pairs apart, either way round, of all that there are, nil and false if there is none.
func (r relation) side() ([]int, bool) {
	var first []int
	isThere := false
	pairs := r.pairsApart()
	for turned := range lists(len(pairs), 0, 1) {
		side := newRelation(len(r))
		for i, pair := range pairs {
			side[pair[turned[i]]][pair[1-turned[i]]] = true
		}
		if !side.isOrder() {
			continue
		}
		if up := side.sets(); !isThere || slices.Compare(up, first) < 0 {
			first, isThere = up, true
		}
	}
	return first, isThere
}

// lineWith returns the line in which items are behind others if they are above them in one of both relations.
func (r relation) lineWith(other relation) []int {
	line := make([]int, len(r))
	for item := range r {
		ahead := 0
		for low := range r {
			if r[low][item] || other[low][item] {
				ahead++
			}
		}
		line[ahead] = item
	}
	return line
}

// planeLines returns the two lines of an order and its side, by the document's words.
func (r relation) planeLines(side []int) [][]int {
	return [][]int{r.lineWith(relationOf(side)), r.lineWith(relationOf(side).turned())}
}

// hasSide reports whether there is SideOrder.
func hasSide(up []int) bool {
	_, ok := impl.SideOrder(up)
	return ok
}

// hasNoSide reports whether there is no SideOrder.
func hasNoSide(up []int) bool {
	return !hasSide(up)
}

func TestMaxLined(t *testing.T) {
	if impl.MaxLined != 60 {
		t.Errorf("MaxLined = %d", impl.MaxLined)
	}
}

func TestLinesOrder(t *testing.T) {
	cases := []struct {
		n     int
		lines [][]int
		want  []int
	}{
		// No items, and one item.
		{0, [][]int{{}}, nil},
		{0, [][]int{nil}, nil},
		{0, [][]int{nil, {}, nil}, nil},
		{1, [][]int{{0}}, []int{0}},
		{1, [][]int{{0}, {0}, {0}}, []int{0}},
		// One line is a chain.
		{2, [][]int{{0, 1}}, []int{2, 0}},
		{2, [][]int{{1, 0}}, []int{0, 1}},
		{3, [][]int{{0, 1, 2}}, []int{6, 4, 0}},
		{3, [][]int{{1, 2, 0}}, []int{0, 5, 1}},
		{6, [][]int{{0, 1, 2, 3, 4, 5}}, []int{62, 60, 56, 48, 32, 0}},
		{6, [][]int{{5, 4, 3, 2, 1, 0}}, []int{0, 1, 3, 7, 15, 31}},
		// The same line again tells no more.
		{2, [][]int{{0, 1}, {0, 1}}, []int{2, 0}},
		{3, [][]int{{0, 2, 1}, {0, 1, 2}, {0, 2, 1}}, []int{6, 0, 0}},
		// Two lines.
		{2, [][]int{{0, 1}, {1, 0}}, []int{0, 0}},
		{3, [][]int{{0, 1, 2}, {0, 2, 1}}, []int{6, 0, 0}},
		{3, [][]int{{0, 1, 2}, {1, 0, 2}}, []int{4, 4, 0}},
		{3, [][]int{{0, 1, 2}, {2, 1, 0}}, []int{0, 0, 0}},
		{3, [][]int{{0, 1, 2}, {1, 2, 0}}, []int{0, 4, 0}},
		{4, [][]int{{2, 3, 0, 1}, {0, 2, 1, 3}}, []int{2, 0, 10, 0}},
		{4, [][]int{{2, 3, 0, 1}, {0, 1, 2, 3}}, []int{2, 0, 8, 0}},
		{4, [][]int{{0, 1, 2, 3}, {0, 2, 1, 3}}, []int{14, 8, 8, 0}},
		{6, [][]int{{0, 1, 2, 3, 4, 5}, {5, 4, 3, 2, 1, 0}}, make([]int, 6)},
		{6, [][]int{{0, 1, 2, 3, 4, 5}, {2, 1, 0, 5, 4, 3}}, []int{56, 56, 56, 0, 0, 0}},
		// More lines.
		{3, [][]int{{0, 1, 2}, {0, 2, 1}, {1, 0, 2}}, []int{4, 0, 0}},
		{3, [][]int{{0, 1, 2}, {0, 2, 1}, {1, 0, 2}, {2, 0, 1}}, []int{0, 0, 0}},
		{6, [][]int{{1, 2, 3, 0, 4, 5}, {0, 2, 4, 1, 3, 5}, {0, 1, 5, 2, 3, 4}}, []int{48, 40, 24, 0, 0, 0}},
	}
	for _, c := range cases {
		if up, ok := impl.LinesOrder(c.n, c.lines); !ok || !same(up, c.want) {
			t.Errorf("LinesOrder(%d, %v) = %v, %v, not %v", c.n, c.lines, up, ok, c.want)
		}
	}
}

func TestLinesOrderByItsWords(t *testing.T) {
	for _, c := range lineLists() {
		up, ok := impl.LinesOrder(c.n, c.lines)
		if want := orderOfLines(c.n, c.lines); !ok || !same(up, want) || !impl.ValidOrder(up) {
			t.Fatalf("LinesOrder(%d, %v) = %v, %v, not %v", c.n, c.lines, up, ok, want)
		}
	}
}

// badLines are lists that are no lines of n items.
func badLines(n int) [][]int {
	line := arrangements(n)[0]
	bad := [][]int{append(slices.Clone(line), n), append(slices.Clone(line), 0), append([]int{-1}, line...), slices.Concat(line, []int{6, 7}, line)}
	if n > 0 {
		bad = append(bad, nil, []int{}, line[1:], line[:n-1])
	}
	for at := range n {
		for _, item := range append(badItems(n), line[(at+1)%n]) {
			if other := slices.Clone(line); other[at] != item {
				other[at] = item
				bad = append(bad, other)
			}
		}
	}
	return bad
}

func checkNoLinesOrder(t *testing.T, n int, lines [][]int) {
	t.Helper()
	if up, ok := impl.LinesOrder(n, lines); ok || len(up) != 0 {
		t.Fatalf("LinesOrder(%d, %v) = %v, %v", n, lines, up, ok)
	}
}

func TestNoLines(t *testing.T) {
	for n := -2; n <= 8; n++ {
		checkNoLinesOrder(t, n, nil)
		checkNoLinesOrder(t, n, [][]int{})
	}
}

func TestListsThatAreNoLinesOfAll(t *testing.T) {
	for n := range 7 {
		arranged := arrangements(n)
		good := [][]int{arranged[0], arranged[len(arranged)/2], arranged[len(arranged)-1]}
		for _, bad := range badLines(n) {
			checkNoLinesOrder(t, n, [][]int{bad})
			checkNoLinesOrder(t, n, [][]int{bad, bad})
			for at := range len(good) + 1 {
				checkNoLinesOrder(t, n, slices.Insert(slices.Clone(good), at, bad))
			}
			checkNoLinesOrder(t, n, append(slices.Repeat(good, 300), bad))
		}
	}
}

// Lines of one number of items are none of another one.
func TestLinesOfOtherNumbersOfItems(t *testing.T) {
	for n := range 7 {
		for other := range 9 {
			if n != other {
				checkNoLinesOrder(t, n, [][]int{arrangements(other)[0]})
				checkNoLinesOrder(t, n, [][]int{arrangements(n)[0], arrangements(other)[0]})
			}
		}
	}
}

func TestLinesOfTooManyItemsOrFewerThanNone(t *testing.T) {
	for _, n := range []int{7, 8} {
		line := arrangements(n)[0]
		checkNoLinesOrder(t, n, [][]int{line})
		checkNoLinesOrder(t, n, [][]int{line, line})
	}
	long := make([]int, 100)
	for i := range long {
		long[i] = i
	}
	for _, n := range []int{9, 63, 64, 65, 100} {
		checkNoLinesOrder(t, n, [][]int{long[:n]})
	}
	for _, n := range []int{-1, -2, -6, -64, 7, 64, 1 << 32, math.MaxInt, math.MinInt} {
		for _, lines := range [][][]int{{{}}, {nil}, {{0}}, {{-1}}, {{n}}, {{0, 1}, {1, 0}}, {long[:6]}} {
			checkNoLinesOrder(t, n, lines)
		}
	}
}

func TestFewestLines(t *testing.T) {
	cases := []struct {
		up   []int
		want int
	}{
		{nil, 1},
		{[]int{}, 1},
		{[]int{0}, 1},
		{[]int{2, 0}, 1},
		{[]int{0, 1}, 1},
		{[]int{0, 0}, 2},
		{[]int{6, 4, 0}, 1},
		{[]int{0, 5, 1}, 1},
		{[]int{6, 0, 0}, 2},
		{[]int{4, 0, 0}, 2},
		{[]int{0, 0, 0}, 2},
		{[]int{2, 0, 10, 0}, 2},
		{[]int{2, 0, 8, 0}, 2},
		{[]int{14, 8, 8, 0}, 2},
		{[]int{12, 12, 0, 0}, 2},
		{[]int{0, 0, 0, 0}, 2},
		{[]int{0, 1, 3, 7, 15}, 1},
		{[]int{30, 16, 16, 16, 0}, 2},
		{[]int{62, 60, 56, 48, 32, 0}, 1},
		{[]int{0, 1, 3, 7, 15, 31}, 1},
		{[]int{56, 56, 56, 0, 0, 0}, 2},
		{[]int{62, 52, 32, 48, 32, 0}, 2},
		// Orders without a side.
		{[]int{48, 40, 24, 0, 0, 0}, 3},
		{[]int{24, 48, 40, 0, 0, 0}, 3},
		{[]int{36, 20, 0, 48, 0, 0}, 3},
		{[]int{56, 52, 16, 16, 0, 0}, 3},
		{[]int{60, 48, 32, 16, 0, 0}, 3},
		// 60 lines, 61 lines, and more.
		{[]int{2, 0, 0, 0, 0}, 2},
		{[]int{0, 0, 0, 0, 1}, 2},
		{[]int{12, 32, 8, 0, 0, 0}, 2},
		{[]int{32, 32, 32, 48, 32, 0}, 2},
		{[]int{10, 0, 40, 0, 32, 0}, -1},
		{[]int{36, 36, 0, 32, 32, 0}, -1},
		{[]int{62, 0, 0, 0, 0, 0}, -1},
		{[]int{0, 0, 0, 0, 0}, -1},
		{[]int{2, 0, 0, 0, 0, 0}, -1},
		{[]int{0, 0, 0, 0, 0, 0}, -1},
	}
	for _, c := range cases {
		if !impl.ValidOrder(c.up) {
			t.Errorf("%v is no order", c.up)
		}
		if got := impl.FewestLines(c.up); got != c.want {
			t.Errorf("FewestLines(%v) = %d, not %d", c.up, got, c.want)
		}
	}
}

func TestFewestLinesByItsWords(t *testing.T) {
	for _, up := range seriesOrders() {
		if got, want := impl.FewestLines(up), relationOf(up).fewestLines(); got != want {
			t.Fatalf("FewestLines(%v) = %d, not %d", up, got, want)
		}
	}
}

// It is told just of orders of at most 60 lines, and there are some of 60 and of 61 lines.
func TestFewestLinesIsToldOfFewLines(t *testing.T) {
	told := map[int]bool{}
	for _, up := range seriesOrders() {
		count, fewest := impl.CountLines(up), impl.FewestLines(up)
		if (fewest == -1) != (count > 60) || fewest < -1 || fewest == 0 || fewest > 3 {
			t.Fatalf("FewestLines(%v) = %d of %d lines", up, fewest, count)
		}
		told[count] = true
	}
	if !told[60] || !told[61] {
		t.Errorf("orders of 60 lines are asked about: %v, of 61 lines: %v", told[60], told[61])
	}
}

func TestSideOrderAndPlaneLines(t *testing.T) {
	cases := []struct {
		up    []int
		side  []int
		lines [][]int
	}{
		{nil, nil, [][]int{{}, {}}},
		{[]int{}, nil, [][]int{{}, {}}},
		{[]int{0}, []int{0}, [][]int{{0}, {0}}},
		// Chains have no other pairs.
		{[]int{2, 0}, []int{0, 0}, [][]int{{0, 1}, {0, 1}}},
		{[]int{0, 5, 1}, []int{0, 0, 0}, [][]int{{1, 2, 0}, {1, 2, 0}}},
		{[]int{62, 60, 56, 48, 32, 0}, make([]int, 6), [][]int{{0, 1, 2, 3, 4, 5}, {0, 1, 2, 3, 4, 5}}},
		// Items apart have all.
		{[]int{0, 0}, []int{0, 1}, [][]int{{1, 0}, {0, 1}}},
		{[]int{0, 0, 0}, []int{0, 1, 3}, [][]int{{2, 1, 0}, {0, 1, 2}}},
		{make([]int, 6), []int{0, 1, 3, 7, 15, 31}, [][]int{{5, 4, 3, 2, 1, 0}, {0, 1, 2, 3, 4, 5}}},
		{[]int{6, 0, 0}, []int{0, 0, 2}, [][]int{{0, 2, 1}, {0, 1, 2}}},
		{[]int{4, 4, 0}, []int{0, 1, 0}, [][]int{{1, 0, 2}, {0, 1, 2}}},
		// Both others are above 1, or both below it: the first set is less where they are above.
		{[]int{4, 0, 0}, []int{0, 5, 0}, [][]int{{1, 0, 2}, {0, 2, 1}}},
		{[]int{0, 0, 1}, []int{0, 5, 0}, [][]int{{1, 2, 0}, {2, 0, 1}}},
		{[]int{0, 4, 0}, []int{0, 1, 1}, [][]int{{1, 2, 0}, {0, 1, 2}}},
		{[]int{2, 0, 10, 0}, []int{0, 0, 1, 3}, [][]int{{2, 3, 0, 1}, {0, 2, 1, 3}}},
		{[]int{2, 0, 8, 0}, []int{0, 0, 3, 3}, [][]int{{2, 3, 0, 1}, {0, 1, 2, 3}}},
		{[]int{14, 8, 8, 0}, []int{0, 0, 2, 0}, [][]int{{0, 2, 1, 3}, {0, 1, 2, 3}}},
		{[]int{30, 16, 16, 16, 0}, []int{0, 0, 2, 6, 0}, [][]int{{0, 3, 2, 1, 4}, {0, 1, 2, 3, 4}}},
		{[]int{56, 56, 56, 0, 0, 0}, []int{0, 1, 3, 0, 8, 24}, [][]int{{2, 1, 0, 5, 4, 3}, {0, 1, 2, 3, 4, 5}}},
	}
	for _, c := range cases {
		if side, ok := impl.SideOrder(c.up); !ok || !same(side, c.side) {
			t.Errorf("SideOrder(%v) = %v, %v, not %v", c.up, side, ok, c.side)
		}
		if lines, ok := impl.PlaneLines(c.up); !ok || !sameRows(lines, c.lines) {
			t.Errorf("PlaneLines(%v) = %v, %v, not %v", c.up, lines, ok, c.lines)
		}
	}
}

func checkNoSide(t *testing.T, up []int) {
	t.Helper()
	if side, ok := impl.SideOrder(up); ok || len(side) != 0 {
		t.Fatalf("SideOrder(%v) = %v, %v", up, side, ok)
	}
	if lines, ok := impl.PlaneLines(up); ok || len(lines) != 0 {
		t.Fatalf("PlaneLines(%v) = %v, %v", up, lines, ok)
	}
}

func TestOrdersWithoutASide(t *testing.T) {
	for _, up := range [][]int{{48, 40, 24, 0, 0, 0}, {56, 52, 16, 16, 0, 0}, {60, 48, 32, 16, 0, 0}} {
		for _, numbers := range arrangements(6) {
			checkNoSide(t, renumbered(up, numbers))
		}
	}
}

func TestSideOrderAndPlaneLinesByTheirWords(t *testing.T) {
	for _, up := range seriesOrders() {
		above := relationOf(up)
		want, isThere := above.side()
		if !isThere {
			checkNoSide(t, up)
			continue
		}
		if side, ok := impl.SideOrder(up); !ok || !same(side, want) {
			t.Fatalf("SideOrder(%v) = %v, %v, not %v", up, side, ok, want)
		}
		if lines, ok := impl.PlaneLines(up); !ok || !sameRows(lines, above.planeLines(want)) {
			t.Fatalf("PlaneLines(%v) = %v, %v, not %v", up, lines, ok, above.planeLines(want))
		}
	}
}

// It is known that all orders of up to five items have a side, and all but three shapes of six.
func TestShapesWithoutASide(t *testing.T) {
	shapes := [][]int{}
	for _, up := range spanOrders(t, hasNoSide) {
		if len(up) != 6 {
			t.Fatalf("%v has no side", up)
		}
		var numbered [][]int
		for _, numbers := range arrangements(6) {
			numbered = append(numbered, renumbered(up, numbers))
		}
		shapes = append(shapes, slices.MinFunc(numbered, slices.Compare))
	}
	slices.SortFunc(shapes, slices.Compare)
	if shapes = slices.CompactFunc(shapes, same); len(shapes) != 3 {
		t.Errorf("the shapes %v have no side", shapes)
	}
}

// Promise 54.
func TestLinesAreLinesOfTheirOrder(t *testing.T) {
	for _, c := range lineLists() {
		up, ok := impl.LinesOrder(c.n, c.lines)
		if !ok {
			t.Fatalf("there is no LinesOrder(%d, %v)", c.n, c.lines)
		}
		for _, line := range c.lines {
			if !impl.IsLine(up, line) {
				t.Fatalf("%v is no line of %v, LinesOrder(%d, %v)", line, up, c.n, c.lines)
			}
		}
		if fewest := impl.FewestLines(up); fewest > len(c.lines) {
			t.Fatalf("FewestLines(%v) = %d, but it is told by %v", up, fewest, c.lines)
		}
		if len(c.lines) == 1 {
			if !impl.IsChain(up, power(c.n)-1) {
				t.Fatalf("LinesOrder(%d, %v) = %v", c.n, c.lines, up)
			}
			continue
		}
		if fewer, ok := impl.LinesOrder(c.n, c.lines[1:]); !ok || impl.CountPairs(fewer) < impl.CountPairs(up) {
			t.Fatalf("LinesOrder(%d, %v) = %v, and %v, %v without the first line", c.n, c.lines, up, fewer, ok)
		}
	}
}

// Promise 55.
func TestTwoLinesHaveASide(t *testing.T) {
	for _, up := range seriesOrders() {
		fewest := impl.FewestLines(up)
		if fewest == -1 {
			continue
		}
		if isChain := impl.IsChain(up, power(len(up))-1); (fewest == 1) != isChain {
			t.Fatalf("FewestLines(%v) = %d, IsChain = %v", up, fewest, isChain)
		}
		if (fewest <= 2) != hasSide(up) {
			t.Fatalf("FewestLines(%v) = %d, with SideOrder: %v", up, fewest, hasSide(up))
		}
		if dual := impl.FewestLines(impl.DualOf(up)); dual != -1 && dual != fewest {
			t.Fatalf("FewestLines(%v) = %d, but %d turned round", up, fewest, dual)
		}
	}
}

// Promise 56.
func TestSidesHaveAllOtherPairs(t *testing.T) {
	for _, up := range spanOrders(t, hasSide) {
		side, _ := impl.SideOrder(up)
		if !impl.ValidOrder(side) || len(side) != len(up) {
			t.Fatalf("SideOrder(%v) = %v", up, side)
		}
		for b := range up {
			for a := range b {
				two := power(a) + power(b)
				if impl.IsChain(up, two) == impl.IsChain(side, two) {
					t.Fatalf("SideOrder(%v) = %v, with %d and %d in both or in none", up, side, a, b)
				}
			}
		}
		if !hasSide(side) {
			t.Fatalf("SideOrder(%v) = %v has no side", up, side)
		}
		if lines, ok := impl.PlaneLines(up); !ok || len(lines) != 2 {
			t.Fatalf("PlaneLines(%v) = %v, %v", up, lines, ok)
		}
	}
}

// Promise 57.
func TestTwoLinesTellTheOrder(t *testing.T) {
	for _, up := range spanOrders(t, hasSide) {
		lines, ok := impl.PlaneLines(up)
		again, isOrder := impl.LinesOrder(len(up), lines)
		if !ok || !isOrder || !same(again, up) {
			t.Fatalf("PlaneLines(%v) = %v, %v, of which LinesOrder = %v, %v", up, lines, ok, again, isOrder)
		}
		if len(lines) != 2 || !impl.IsLine(up, lines[0]) || !impl.IsLine(up, lines[1]) {
			t.Fatalf("PlaneLines(%v) = %v", up, lines)
		}
	}
}

func TestBadOrdersHaveFixedResultsOfPlanes(t *testing.T) {
	for _, up := range badOrders() {
		checkNoOrderOfPlanes(t, up)
	}
}

// Lists that would have few lines, and a side, if they were orders.
func TestListsThatAreNearlyOrdersOfPlanes(t *testing.T) {
	for _, up := range [][]int{{2, 1, 0}, {6, 0, 8}, {6, 0, -1}, {2, 4, 0}, {6, 5, 3}, {14, 8, 8, 16}, {2, 4, 8, 0}, {-2, 0}, {126, 124, 120, 112, 96, 64, 0}, {62, 60, 56, 48, 32, 0, 0}, {62, 60, 56, 48, 32, 64}, make([]int, 7)} {
		checkNoOrderOfPlanes(t, up)
	}
}

func checkNoOrderOfPlanes(t *testing.T, up []int) {
	t.Helper()
	checkNoSide(t, up)
	if got := impl.FewestLines(up); got != -1 {
		t.Errorf("FewestLines(%v) = %d", up, got)
	}
}

func TestListsAreNotWrittenIntoByPlanes(t *testing.T) {
	for _, up := range append(shapedOrders(), badOrders()...) {
		list := roomy(up)
		impl.FewestLines(list)
		impl.SideOrder(list)
		impl.PlaneLines(list)
		if !roomIsKept(list, up) {
			t.Fatalf("%v is %v after the calls", up, list)
		}
	}
}

func TestLinesAreNotWrittenInto(t *testing.T) {
	all := slices.Clone(lineLists())
	for n := range 7 {
		good := arrangements(n)[0]
		for _, bad := range badLines(n) {
			all = append(all, lineList{n, [][]int{bad}}, lineList{n, [][]int{good, bad, good}})
		}
		all = append(all, lineList{n - 1, [][]int{good}}, lineList{-n, [][]int{good}}, lineList{n + 7, [][]int{good}})
	}
	for _, c := range all {
		rows := make([][]int, 0, len(c.lines)+1)
		for _, line := range c.lines {
			rows = append(rows, roomy(line))
		}
		room := append(rows, []int{mark, 0})
		impl.LinesOrder(c.n, rows)
		if !sameRows(rows, c.lines) || !same(room[len(c.lines)], []int{mark, 0}) {
			t.Fatalf("the lines %v are %v after the call", c.lines, room)
		}
		for i, line := range c.lines {
			if !roomIsKept(rows[i], line) {
				t.Fatalf("%v of %v is %v after the call", line, c.lines, rows[i])
			}
		}
	}
}

func TestLinesOrderSharesNoMemory(t *testing.T) {
	for _, c := range lineLists() {
		want, lines := orderOfLines(c.n, c.lines), cloneRows(c.lines)
		got, _ := impl.LinesOrder(c.n, lines)
		for _, line := range lines {
			spoil(line)
		}
		if !same(got, want) {
			t.Fatalf("the order of %v changes with the lines", c.lines)
		}
		lines = cloneRows(c.lines)
		spoil(got)
		if again, ok := impl.LinesOrder(c.n, lines); !sameRows(lines, c.lines) || !ok || !same(again, want) {
			t.Fatalf("the lines %v, or a later order of them, change with the result", c.lines)
		}
	}
}

func TestSidesAndPlaneLinesShareNoMemory(t *testing.T) {
	sideOf := func(up []int) []int {
		side, _ := impl.SideOrder(up)
		return side
	}
	linesOf := func(up []int) [][]int {
		lines, _ := impl.PlaneLines(up)
		return lines
	}
	for _, up := range goodOrders() {
		checkSharesNoMemory(t, "SideOrder", sideOf, up)
		checkRowsShareNoMemory(t, "PlaneLines", linesOf, up)
	}
}
