package tests

import (
	"slices"
	"strconv"
	"strings"
	"sync"
	"testing"

	"loop.example/ordersthatbranch/impl"
)

// pair is two orders that are put together.
type pair struct{ a, b []int }

// pairsToJoin returns pairs of orders: all of up to four items, and others of more with few ones.
func pairsToJoin() []pair {
	var small [][]int
	for n := range 5 {
		small = append(small, ordersOf(n)...)
	}
	var all []pair
	for _, a := range small {
		for _, b := range small {
			all = append(all, pair{a, b})
		}
	}
	few := [][]int{nil, {}, {0}, {0, 0}, {2, 0}, {0, 1}}
	for _, a := range slices.Concat(namedOrders(), upwardOrders(5), broadOrders(200)) {
		for _, b := range few {
			all = append(all, pair{a, b}, pair{b, a})
		}
	}
	return all
}

// joined returns the relation of all items of both, where those of b may be above those of a.
func (r relation) joined(other relation, isAbove bool) relation {
	all := newRelation(len(r) + len(other))
	for low := range all {
		for high := range all {
			switch {
			case low < len(r) && high < len(r):
				all[low][high] = r[low][high]
			case low >= len(r) && high >= len(r):
				all[low][high] = other[low-len(r)][high-len(r)]
			default:
				all[low][high] = isAbove && low < high
			}
		}
	}
	return all
}

// times returns the relation of all pairs of an item of each, by the first and then by the second one.
func (r relation) times(other relation) relation {
	all := newRelation(len(r) * len(other))
	for low := range all {
		for high := range all {
			a, b := low/len(other), low%len(other)
			c, d := high/len(other), high%len(other)
			isFirst, isSecond := a == c || r[a][c], b == d || other[b][d]
			all[low][high] = low != high && isFirst && isSecond
		}
	}
	return all
}

// hasFour reports whether four items, told in any order, have just the relations of the other four.
func (r relation) hasFour(other relation) bool {
	for a := range r {
		for b := range r {
			for c := range r {
				for d := range r {
					if r.areLike([]int{a, b, c, d}, other) {
						return true
					}
				}
			}
		}
	}
	return false
}

// areLike reports whether the items, no one of them twice, have just the relations of the other ones.
func (r relation) areLike(items []int, other relation) bool {
	for i := range items {
		for j := range items {
			if r[items[i]][items[j]] != other[i][j] || i != j && items[i] == items[j] {
				return false
			}
		}
	}
	return true
}

// hasZigzag reports whether four items have just the relations that the second one is above the first and the third one, and the fourth one above the third one.
func (r relation) hasZigzag() bool {
	return r.hasFour(relation{
		{false, true, false, false},
		{false, false, false, false},
		{false, true, false, true},
		{false, false, false, false},
	})
}

// takeOff returns the fewest of the members that can be parted from all others, and these others.
func takeOff(members []int, mayPart func(part []int, rest []int) bool) ([]int, []int) {
	part, rest := members, []int(nil)
	for s := 1; s < power(len(members)); s++ {
		var in, out []int
		for i, member := range members {
			if s/power(i)%2 == 1 {
				in = append(in, member)
			} else {
				out = append(out, member)
			}
		}
		if len(in) < len(part) && mayPart(in, out) {
			part, rest = in, out
		}
	}
	return part, rest
}

// allParts takes off as many parts as there can be.
func allParts(members []int, mayPart func(part []int, rest []int) bool) [][]int {
	var parts [][]int
	for rest := members; len(rest) > 0; {
		var part []int
		part, rest = takeOff(rest, mayPart)
		parts = append(parts, part)
	}
	return parts
}

// isBeside reports whether there is no relation between the part and the rest, and the first item is in the part.
func (r relation) isBeside(part []int, rest []int) bool {
	for _, a := range part {
		for _, b := range rest {
			if r[a][b] || r[b][a] || part[0] > b {
				return false
			}
		}
	}
	return true
}

// isWhollyBelow reports whether each item of the rest is above each one of the part.
func (r relation) isWhollyBelow(part []int, rest []int) bool {
	for _, a := range part {
		for _, b := range rest {
			if !r[a][b] {
				return false
			}
		}
	}
	return true
}

// text returns the text of the members, by the document's words.
func (r relation) text(members []int) string {
	if len(members) == 1 {
		return strconv.Itoa(members[0])
	}
	if parts := allParts(members, r.isBeside); len(parts) > 1 {
		return r.textOfParts(parts, ",")
	}
	if parts := allParts(members, r.isWhollyBelow); len(parts) > 1 {
		return r.textOfParts(parts, "<")
	}
	return ""
}

// textOfParts returns the texts of all parts with the sign between them, or none if one has none.
func (r relation) textOfParts(parts [][]int, sign string) string {
	var texts []string
	for _, part := range parts {
		texts = append(texts, r.text(part))
	}
	if slices.Contains(texts, "") {
		return ""
	}
	return "(" + strings.Join(texts, sign) + ")"
}

// reader reads a text of n items, and notes the relation that it tells.
type reader struct {
	text  string
	above relation
}

// next takes one byte off the text, or returns 0 at its end.
func (r *reader) next() byte {
	if r.text == "" {
		return 0
	}
	c := r.text[0]
	r.text = r.text[1:]
	return c
}

// read returns the items of the text in front, and the sign between its parts, 0 for one item.
func (r *reader) read(t *testing.T) ([]int, byte) {
	t.Helper()
	c := r.next()
	if c >= '0' && c < '0'+byte(len(r.above)) {
		return []int{int(c - '0')}, 0
	}
	if c != '(' {
		t.Fatalf("%q is read ahead of %q", c, r.text)
	}
	ahead, sign := r.read(t)
	between := r.next()
	for c = between; c != ')'; c = r.next() {
		if c != between || c != ',' && c != '<' || sign == between {
			t.Fatalf("%q is read ahead of %q, behind %q", c, r.text, between)
		}
		var part []int
		part, sign = r.read(t)
		if between == ',' && slices.Min(part) < slices.Min(ahead) {
			t.Fatalf("the items %v are read behind %v", part, ahead)
		}
		r.note(ahead, part, between)
		ahead = append(ahead, part...)
	}
	if sign == between || between == ')' {
		t.Fatalf("a part of its own is read ahead of %q", r.text)
	}
	return ahead, between
}

// note notes that the part is above all ahead, if the sign tells it.
func (r *reader) note(ahead []int, part []int, sign byte) {
	for _, low := range ahead {
		for _, high := range part {
			r.above[low][high] = sign == '<'
		}
	}
}

// ordersOfFive returns all orders of five items, told as all numberings of all shapes.
func ordersOfFive() [][]int {
	var all [][]int
	for _, up := range upwardOrders(5) {
		for _, numbers := range arrangements(5) {
			all = append(all, renumbered(up, numbers))
		}
	}
	slices.SortFunc(all, slices.Compare)
	return slices.CompactFunc(all, same)
}

// seriesOrders are orders with a text and without one: all of up to five items, and all shapes of six.
var seriesOrders = sync.OnceValue(func() [][]int {
	return slices.Concat(shapedOrders(), ordersOfFive())
})

func TestAllOrdersOfFiveItemsAreThere(t *testing.T) {
	if got := len(ordersOfFive()); got != 4231 {
		t.Errorf("there are %d orders of five items", got)
	}
}

func TestBesideOfAndStackOf(t *testing.T) {
	chain, fork, zigzag := []int{6, 4, 0}, []int{6, 0, 0}, []int{2, 0, 10, 0}
	cases := []struct{ a, b, beside, stack []int }{
		{nil, nil, nil, nil},
		{[]int{}, nil, nil, nil},
		{nil, []int{0}, []int{0}, []int{0}},
		{[]int{0}, nil, []int{0}, []int{0}},
		{[]int{0}, []int{0}, []int{0, 0}, []int{2, 0}},
		{nil, chain, chain, chain},
		{chain, nil, chain, chain},
		{[]int{0}, []int{2, 0}, []int{0, 4, 0}, []int{6, 4, 0}},
		{[]int{2, 0}, []int{0}, []int{2, 0, 0}, []int{6, 4, 0}},
		{[]int{0, 1}, []int{0}, []int{0, 1, 0}, []int{4, 5, 0}},
		{[]int{0}, []int{0, 1}, []int{0, 0, 2}, []int{6, 0, 2}},
		{[]int{0}, []int{0, 0}, []int{0, 0, 0}, []int{6, 0, 0}},
		{[]int{0, 0}, []int{0}, []int{0, 0, 0}, []int{4, 4, 0}},
		{[]int{0, 0}, []int{0, 0}, []int{0, 0, 0, 0}, []int{12, 12, 0, 0}},
		{[]int{2, 0}, []int{2, 0}, []int{2, 0, 8, 0}, []int{14, 12, 8, 0}},
		{fork, []int{0}, []int{6, 0, 0, 0}, []int{14, 8, 8, 0}},
		{fork, chain, []int{6, 0, 0, 48, 32, 0}, []int{62, 56, 56, 48, 32, 0}},
		{chain, fork, []int{6, 4, 0, 48, 0, 0}, []int{62, 60, 56, 48, 0, 0}},
		{zigzag, []int{0, 1}, []int{2, 0, 10, 0, 0, 16}, []int{50, 48, 58, 48, 0, 16}},
		{[]int{0, 1}, zigzag, []int{0, 1, 8, 0, 40, 0}, []int{60, 61, 8, 0, 40, 0}},
		// As many items together as there may be, on one side alone.
		{make([]int, 6), nil, make([]int, 6), make([]int, 6)},
		{nil, []int{62, 60, 56, 48, 32, 0}, []int{62, 60, 56, 48, 32, 0}, []int{62, 60, 56, 48, 32, 0}},
		{make([]int, 5), []int{0}, make([]int, 6), []int{32, 32, 32, 32, 32, 0}},
		{[]int{0}, make([]int, 5), make([]int, 6), []int{62, 0, 0, 0, 0, 0}},
	}
	for _, c := range cases {
		if got, ok := impl.BesideOf(c.a, c.b); !ok || !same(got, c.beside) {
			t.Errorf("BesideOf(%v, %v) = %v, %v, not %v", c.a, c.b, got, ok, c.beside)
		}
		if got, ok := impl.StackOf(c.a, c.b); !ok || !same(got, c.stack) {
			t.Errorf("StackOf(%v, %v) = %v, %v, not %v", c.a, c.b, got, ok, c.stack)
		}
	}
}

func TestTimesOf(t *testing.T) {
	chain, six := []int{6, 4, 0}, []int{62, 60, 56, 48, 32, 0}
	cases := []struct{ a, b, want []int }{
		{nil, nil, nil},
		{[]int{}, []int{}, nil},
		{nil, []int{0}, nil},
		{[]int{0}, nil, nil},
		{nil, six, nil},
		{six, nil, nil},
		{[]int{0}, []int{0}, []int{0}},
		{[]int{0}, chain, chain},
		{chain, []int{0}, chain},
		{[]int{0}, six, six},
		{six, []int{0}, six},
		{[]int{2, 0}, []int{2, 0}, []int{14, 8, 8, 0}},
		{[]int{2, 0}, []int{0, 1}, []int{4, 13, 0, 4}},
		{[]int{0, 1}, []int{2, 0}, []int{2, 0, 11, 2}},
		{[]int{0, 0}, []int{2, 0}, []int{2, 0, 8, 0}},
		{[]int{2, 0}, []int{0, 0}, []int{4, 8, 0, 0}},
		{[]int{0, 0}, []int{0, 0}, []int{0, 0, 0, 0}},
		{[]int{2, 0}, chain, []int{62, 52, 32, 48, 32, 0}},
		{chain, []int{2, 0}, []int{62, 40, 56, 32, 32, 0}},
		{[]int{2, 0}, []int{6, 0, 0}, []int{62, 16, 32, 48, 0, 0}},
		{[]int{0, 0}, []int{4, 4, 0}, []int{4, 4, 0, 32, 32, 0}},
		{[]int{4, 4, 0}, []int{0, 0}, []int{16, 32, 16, 32, 0, 0}},
		{make([]int, 3), []int{0, 0}, make([]int, 6)},
	}
	for _, c := range cases {
		if got, ok := impl.TimesOf(c.a, c.b); !ok || !same(got, c.want) {
			t.Errorf("TimesOf(%v, %v) = %v, %v, not %v", c.a, c.b, got, ok, c.want)
		}
	}
}

// checkTogether checks a result for two orders: the one wanted, or none for too many items.
func checkTogether(t *testing.T, name string, p pair, got []int, ok bool, want relation) {
	t.Helper()
	isTooMany := len(want) > 6
	if ok == isTooMany || isTooMany && len(got) != 0 || !isTooMany && !same(got, want.sets()) {
		t.Fatalf("%s(%v, %v) = %v, %v, not %v", name, p.a, p.b, got, ok, want.sets())
	}
}

func TestOrdersPutTogetherByTheirWords(t *testing.T) {
	for _, p := range pairsToJoin() {
		a, b := relationOf(p.a), relationOf(p.b)
		beside, isBeside := impl.BesideOf(p.a, p.b)
		checkTogether(t, "BesideOf", p, beside, isBeside, a.joined(b, false))
		stack, isStack := impl.StackOf(p.a, p.b)
		checkTogether(t, "StackOf", p, stack, isStack, a.joined(b, true))
		times, isTimes := impl.TimesOf(p.a, p.b)
		checkTogether(t, "TimesOf", p, times, isTimes, a.times(b))
	}
}

// checkNothingTogether checks the results for two lists that are no two orders, or of too many items.
func checkNothingTogether(t *testing.T, a []int, b []int) {
	t.Helper()
	for name, f := range twoOrders() {
		if got, ok := f(a, b); ok || len(got) != 0 {
			t.Fatalf("%s(%v, %v) = %v, %v", name, a, b, got, ok)
		}
	}
}

// twoOrders are the functions of the chapter that put two orders together.
func twoOrders() map[string]func([]int, []int) ([]int, bool) {
	return map[string]func([]int, []int) ([]int, bool){
		"BesideOf": impl.BesideOf,
		"StackOf":  impl.StackOf,
		"TimesOf":  impl.TimesOf,
	}
}

func TestTooManyItemsTogether(t *testing.T) {
	two, three, four, five, six := make([]int, 2), make([]int, 3), make([]int, 4), make([]int, 5), make([]int, 6)
	for _, p := range []pair{{six, six}, {six, two}, {two, six}, {five, two}, {two, five}, {four, four}, {three, four}, {four, three}} {
		checkNothingTogether(t, p.a, p.b)
	}
	// One more than the limit, and the limit, together and in pairs.
	cases := []struct {
		a, b                     []int
		areTogether, areInCouple bool
	}{
		{six, nil, true, true},
		{nil, six, true, true},
		{six, []int{0}, false, true},
		{[]int{0}, six, false, true},
		{five, []int{0}, true, true},
		{[]int{0}, five, true, true},
		{three, three, true, false},
		{four, two, true, false},
		{two, four, true, false},
		{three, two, true, true},
		{two, three, true, true},
	}
	for _, c := range cases {
		_, isBeside := impl.BesideOf(c.a, c.b)
		_, isStack := impl.StackOf(c.a, c.b)
		_, isTimes := impl.TimesOf(c.a, c.b)
		if isBeside != c.areTogether || isStack != c.areTogether || isTimes != c.areInCouple {
			t.Errorf("BesideOf, StackOf, TimesOf(%v, %v) = %v, %v, %v", c.a, c.b, isBeside, isStack, isTimes)
		}
	}
}

func TestHasZigzag(t *testing.T) {
	cases := []struct {
		up   []int
		want bool
	}{
		{nil, false},
		{[]int{}, false},
		{[]int{0}, false},
		{[]int{0, 0, 0}, false},
		{[]int{6, 4, 0}, false},
		{[]int{2, 0, 10, 0}, true},
		// The same with its items told in other orders, and turned round.
		{[]int{0, 5, 0, 1}, true},
		{[]int{12, 8, 0, 0}, true},
		{[]int{0, 1, 0, 5}, true},
		{[]int{10, 8, 0, 0}, false},
		{[]int{0, 1, 3, 0}, false},
		// One relation less, one more, and one that is another one.
		{[]int{2, 0, 2, 0}, false},
		{[]int{2, 0, 8, 0}, false},
		{[]int{10, 0, 10, 0}, false},
		{[]int{10, 8, 8, 0}, false},
		{[]int{14, 0, 0, 0}, false},
		{[]int{14, 8, 8, 0}, false},
		{[]int{14, 0, 10, 0}, false},
		{[]int{30, 16, 16, 16, 0}, false},
		// With further items, beside, above, and in between.
		{[]int{2, 0, 10, 0, 0}, true},
		{[]int{18, 16, 26, 16, 0}, true},
		{[]int{2, 0, 26, 0, 8}, true},
		{[]int{62, 8, 40, 0, 32, 0}, true},
		{[]int{0, 4, 0, 36, 0, 0}, true},
		{[]int{48, 40, 24, 0, 0, 0}, true},
		{[]int{56, 56, 56, 0, 0, 0}, false},
		{[]int{62, 52, 32, 48, 32, 0}, true},
		{[]int{62, 60, 56, 48, 32, 0}, false},
		{make([]int, 6), false},
	}
	for _, c := range cases {
		if got := impl.HasZigzag(c.up); got != c.want || !impl.ValidOrder(c.up) {
			t.Errorf("HasZigzag(%v) = %v", c.up, got)
		}
	}
}

func TestHasZigzagByItsWords(t *testing.T) {
	for _, up := range seriesOrders() {
		if got, want := impl.HasZigzag(up), relationOf(up).hasZigzag(); got != want {
			t.Fatalf("HasZigzag(%v) = %v", up, got)
		}
	}
}

func TestSeriesTextAndSeriesLines(t *testing.T) {
	cases := []struct {
		up    []int
		text  string
		lines int
	}{
		{nil, "", -1},
		{[]int{}, "", -1},
		{[]int{0}, "0", 1},
		{[]int{0, 0}, "(0,1)", 2},
		{[]int{2, 0}, "(0<1)", 1},
		{[]int{0, 1}, "(1<0)", 1},
		{[]int{0, 0, 0}, "(0,1,2)", 6},
		{[]int{6, 4, 0}, "(0<1<2)", 1},
		{[]int{0, 5, 1}, "(1<2<0)", 1},
		{[]int{6, 0, 0}, "(0<(1,2))", 2},
		{[]int{4, 4, 0}, "((0,1)<2)", 2},
		{[]int{2, 0, 0}, "((0<1),2)", 3},
		{[]int{0, 4, 0}, "(0,(1<2))", 3},
		// Parts stand by their first items, also where these are not their lowest ones.
		{[]int{0, 0, 1}, "((2<0),1)", 3},
		{[]int{0, 0, 2, 1}, "((3<0),(2<1))", 6},
		{[]int{0, 0, 0, 7}, "(3<(0,1,2))", 6},
		{[]int{2, 0, 10, 0}, "", -1},
		{[]int{2, 0, 8, 0}, "((0<1),(2<3))", 6},
		{[]int{14, 8, 8, 0}, "(0<(1,2)<3)", 2},
		{[]int{0, 1, 1, 7}, "(3<(1,2)<0)", 2},
		{[]int{14, 12, 0, 0}, "(0<1<(2,3))", 2},
		{[]int{12, 12, 0, 0}, "((0,1)<(2,3))", 4},
		{[]int{14, 8, 0, 0}, "(0<((1<3),2))", 3},
		{[]int{8, 8, 8, 0}, "((0,1,2)<3)", 6},
		{[]int{30, 16, 16, 16, 0}, "(0<(1,2,3)<4)", 6},
		{[]int{2, 0, 10, 0, 0}, "", -1},
		{[]int{18, 16, 26, 16, 0}, "", -1},
		{[]int{30, 4, 0, 20, 0}, "", -1},
		{[]int{56, 56, 56, 0, 0, 0}, "((0,1,2)<(3,4,5))", 36},
		{[]int{48, 40, 24, 0, 0, 0}, "", -1},
		{[]int{2, 0, 8, 0, 32, 0}, "((0<1),(2<3),(4<5))", 90},
		{[]int{6, 4, 0, 48, 32, 0}, "((0<1<2),(3<4<5))", 20},
		{[]int{2, 0, 56, 32, 32, 0}, "((0<1),(2<(3,4)<5))", 30},
		{[]int{0, 1, 3, 7, 15}, "(4<3<2<1<0)", 1},
		{[]int{62, 60, 56, 48, 32, 0}, "(0<1<2<3<4<5)", 1},
		{[]int{0, 1, 3, 7, 15, 31}, "(5<4<3<2<1<0)", 1},
		{[]int{0, 0, 0, 0, 0, 0}, "(0,1,2,3,4,5)", 720},
	}
	for _, c := range cases {
		text, lines := impl.SeriesText(c.up), impl.SeriesLines(c.up)
		if text != c.text || lines != c.lines {
			t.Errorf("SeriesText, SeriesLines(%v) = %q, %d, not %q, %d", c.up, text, lines, c.text, c.lines)
		}
	}
}

func TestSeriesTextAndSeriesLinesByTheirWords(t *testing.T) {
	for _, up := range seriesOrders() {
		above := relationOf(up)
		want := ""
		if len(up) > 0 {
			want = above.text(membersOf(power(len(up)) - 1))
		}
		if got := impl.SeriesText(up); got != want {
			t.Fatalf("SeriesText(%v) = %q, not %q", up, got, want)
		}
		lines := -1
		if want != "" {
			lines = impl.CountLines(up)
		}
		if got := impl.SeriesLines(up); got != lines {
			t.Fatalf("SeriesLines(%v) = %d, not %d", up, got, lines)
		}
	}
}

// A text tells the order; no part in it has parts of the same kind.
func TestSeriesTextIsReadAgain(t *testing.T) {
	for _, up := range seriesOrders() {
		text := impl.SeriesText(up)
		if text == "" {
			continue
		}
		r := reader{text: text, above: newRelation(len(up))}
		items, _ := r.read(t)
		if r.text != "" || len(items) != len(up) || !same(r.above.sets(), up) {
			t.Fatalf("SeriesText(%v) = %q, where %v has %v above, and %q is left", up, text, items, r.above.sets(), r.text)
		}
	}
}

// joinedPairs returns those pairs of orders that have up to six items together.
func joinedPairs() []pair {
	var few []pair
	for _, p := range pairsToJoin() {
		if len(p.a)+len(p.b) <= 6 {
			few = append(few, p)
		}
	}
	return few
}

// Promise 42.
func TestBesideEachOtherSetsApartAreAdded(t *testing.T) {
	for _, p := range joinedPairs() {
		up, ok := impl.BesideOf(p.a, p.b)
		if !ok || !impl.ValidOrder(up) ||
			impl.WidestApart(up) != impl.WidestApart(p.a)+impl.WidestApart(p.b) ||
			impl.LongestChain(up) != max(impl.LongestChain(p.a), impl.LongestChain(p.b)) ||
			impl.CountIdeals(up) != impl.CountIdeals(p.a)*impl.CountIdeals(p.b) {
			t.Fatalf("BesideOf(%v, %v) = %v, %v, with %d, %d, %d", p.a, p.b, up, ok, impl.WidestApart(up), impl.LongestChain(up), impl.CountIdeals(up))
		}
	}
}

// Promise 43.
func TestOneAboveTheOtherChainsAreAdded(t *testing.T) {
	for _, p := range joinedPairs() {
		up, ok := impl.StackOf(p.a, p.b)
		if !ok || !impl.ValidOrder(up) ||
			impl.LongestChain(up) != impl.LongestChain(p.a)+impl.LongestChain(p.b) ||
			impl.WidestApart(up) != max(impl.WidestApart(p.a), impl.WidestApart(p.b)) ||
			impl.CountLines(up) != impl.CountLines(p.a)*impl.CountLines(p.b) ||
			impl.CountIdeals(up) != impl.CountIdeals(p.a)+impl.CountIdeals(p.b)-1 {
			t.Fatalf("StackOf(%v, %v) = %v, %v, with %d, %d, %d, %d", p.a, p.b, up, ok, impl.LongestChain(up), impl.WidestApart(up), impl.CountLines(up), impl.CountIdeals(up))
		}
	}
}

// Promise 44.
func TestPairsHaveTheChainsOfBoth(t *testing.T) {
	count := 0
	for _, p := range pairsToJoin() {
		if len(p.a)*len(p.b) > 6 {
			continue
		}
		count++
		up, ok := impl.TimesOf(p.a, p.b)
		longest := 0
		if len(p.a) > 0 && len(p.b) > 0 {
			longest = impl.LongestChain(p.a) + impl.LongestChain(p.b) - 1
		}
		if !ok || !impl.ValidOrder(up) || impl.LongestChain(up) != longest {
			t.Fatalf("TimesOf(%v, %v) = %v, %v, with a chain of %d", p.a, p.b, up, ok, impl.LongestChain(up))
		}
		turned, ok := impl.TimesOf(impl.DualOf(p.a), impl.DualOf(p.b))
		if !ok || !same(turned, impl.DualOf(up)) {
			t.Fatalf("TimesOf(%v, %v) = %v, but %v, %v turned round", p.a, p.b, up, turned, ok)
		}
	}
	if count == 0 {
		t.Error("no orders have few pairs")
	}
}

// Promise 45.
func TestWithoutAZigzagThereIsAText(t *testing.T) {
	with, without := 0, 0
	for _, up := range seriesOrders() {
		has, dual := impl.HasZigzag(up), impl.DualOf(up)
		if hasNoText := impl.SeriesText(up) == ""; hasNoText != (has || len(up) == 0) || has != impl.HasZigzag(dual) {
			t.Fatalf("HasZigzag(%v) = %v, %v turned round, SeriesText = %q", up, has, impl.HasZigzag(dual), impl.SeriesText(up))
		}
		if has {
			with++
		} else {
			without++
		}
	}
	if with == 0 || without == 0 {
		t.Errorf("%d orders have a zigzag, and %d none", with, without)
	}
}

// numbersIn returns the numbers of a text.
func numbersIn(text string) []string {
	return strings.FieldsFunc(text, func(r rune) bool { return r < '0' || r > '9' })
}

// Promise 46.
func TestTextsAreOfOrdersWithoutAZigzag(t *testing.T) {
	for _, up := range seriesOrders() {
		text := impl.SeriesText(up)
		if text == "" {
			continue
		}
		if impl.HasZigzag(up) || impl.SeriesLines(up) != impl.CountLines(up) || len(numbersIn(text)) != len(up) {
			t.Fatalf("SeriesText(%v) = %q, HasZigzag = %v, SeriesLines = %d, CountLines = %d", up, text, impl.HasZigzag(up), impl.SeriesLines(up), impl.CountLines(up))
		}
	}
}

// Promise 47.
func TestPartsCountLines(t *testing.T) {
	for _, up := range seriesOrders() {
		lines, turned := impl.SeriesLines(up), impl.SeriesLines(impl.DualOf(up))
		if hasText := impl.SeriesText(up) != ""; lines != turned || hasText != (lines > 0) || hasText && lines != impl.CountLines(up) {
			t.Fatalf("SeriesLines(%v) = %d, %d turned round, CountLines = %d", up, lines, turned, impl.CountLines(up))
		}
	}
}

// Orders that are put together have the texts and lines of both, joined.
func TestOrdersPutTogetherHaveATextIfBothHave(t *testing.T) {
	for _, p := range joinedPairs() {
		if len(p.a) == 0 || len(p.b) == 0 {
			continue
		}
		want := impl.SeriesText(p.a) != "" && impl.SeriesText(p.b) != ""
		beside, _ := impl.BesideOf(p.a, p.b)
		stack, _ := impl.StackOf(p.a, p.b)
		if impl.SeriesText(beside) != "" != want || impl.SeriesText(stack) != "" != want {
			t.Fatalf("SeriesText of %v and %v = %q beside, and %q above", p.a, p.b, impl.SeriesText(beside), impl.SeriesText(stack))
		}
	}
}

func TestBadOrdersHaveFixedResultsOfSeries(t *testing.T) {
	good := [][]int{nil, {}, {0}, {2, 0}, {14, 8, 8, 0}, make([]int, 6)}
	for _, up := range badOrders() {
		for _, other := range good {
			checkNothingTogether(t, up, other)
			checkNothingTogether(t, other, up)
		}
		for _, other := range badOrders() {
			checkNothingTogether(t, up, other)
		}
		if got := impl.HasZigzag(up); got {
			t.Errorf("HasZigzag(%v) = %v", up, got)
		}
		if got := impl.SeriesText(up); got != "" {
			t.Errorf("SeriesText(%v) = %q", up, got)
		}
		if got := impl.SeriesLines(up); got != -1 {
			t.Errorf("SeriesLines(%v) = %d", up, got)
		}
	}
}

// Lists that would have a zigzag, or parts, if they were orders.
func TestListsThatAreNearlySeries(t *testing.T) {
	for _, up := range [][]int{{2, 0, 10, 8}, {2, 0, 10, -8}, {2, 0, 26, 0}, {18, 0, 10, 0}, {2, 0, 10, 0, 0, 0, 0}, {-2, 0}, {2, 4, 0}, {1, 0}, make([]int, 7)} {
		checkNothingTogether(t, up, nil)
		checkNothingTogether(t, nil, up)
		if impl.HasZigzag(up) || impl.SeriesText(up) != "" || impl.SeriesLines(up) != -1 {
			t.Errorf("HasZigzag, SeriesText, SeriesLines(%v) = %v, %q, %d", up, impl.HasZigzag(up), impl.SeriesText(up), impl.SeriesLines(up))
		}
	}
}

func TestListsAreNotWrittenIntoBySeries(t *testing.T) {
	few := [][]int{nil, {0}, {0, 1}, {6, 0, 0}, {-1}, {2, 4, 0}}
	for _, up := range append(goodOrders(), badOrders()...) {
		for _, other := range few {
			a, b := roomy(up), roomy(other)
			for _, f := range twoOrders() {
				f(a, b)
				f(b, a)
				f(a, a)
			}
			impl.HasZigzag(a)
			impl.SeriesText(a)
			impl.SeriesLines(a)
			if !roomIsKept(a, up) || !roomIsKept(b, other) {
				t.Fatalf("%v and %v are %v and %v after the calls", up, other, a, b)
			}
		}
	}
}

func TestListsOfSeriesShareNoMemory(t *testing.T) {
	few := [][]int{nil, {}, {0}, {0, 0}, {0, 1}, {6, 0, 0}}
	for _, up := range goodOrders() {
		for name, f := range twoOrders() {
			for _, other := range few {
				checkSharesNoMemory(t, name+" of the first order", func(list []int) []int {
					got, _ := f(list, other)
					return got
				}, up)
				checkSharesNoMemory(t, name+" of the second order", func(list []int) []int {
					got, _ := f(other, list)
					return got
				}, up)
			}
			checkSharesNoMemory(t, name+" of one order twice", func(list []int) []int {
				got, _ := f(list, list)
				return got
			}, up)
		}
	}
}
