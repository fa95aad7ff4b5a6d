package tests

import (
	"iter"
	"math"
	"slices"
	"sync"
	"testing"

	"loop.example/ordersthatbranch/impl"
)

// isUp reports whether the high item is the low one, or above it.
func (r relation) isUp(low int, high int) bool {
	return low == high || r[low][high]
}

// takes reports whether the list has one of so many items for each item.
func (r relation) takes(many int, list []int) bool {
	isNoItem := func(item int) bool { return item < 0 || item >= many }
	return len(list) == len(r) && !slices.ContainsFunc(list, isNoItem)
}

// listsInto ranges over all lists of n of so many items.
func listsInto(n int, many int) iter.Seq[[]int] {
	if n > 0 && many == 0 {
		return func(func([]int) bool) {}
	}
	return lists(n, 0, max(0, many-1))
}

// isRising reports whether the list rises, by the document's words.
func (r relation) isRising(to relation, list []int) bool {
	if !r.takes(len(to), list) {
		return false
	}
	for low := range r {
		for high := range r {
			if r[low][high] && !to.isUp(list[low], list[high]) {
				return false
			}
		}
	}
	return true
}

// risingLists returns all lists that rise, that with the lesser item where two differ first.
func (r relation) risingLists(to relation) [][]int {
	all := [][]int{nil}
	for item := range r {
		var longer [][]int
		for _, list := range all {
			for end := range to {
				fits := true
				for other, otherEnd := range list {
					fits = fits && (!r[other][item] || to.isUp(otherEnd, end)) && (!r[item][other] || to.isUp(end, otherEnd))
				}
				if fits {
					longer = append(longer, append(slices.Clone(list), end))
				}
			}
		}
		all = longer
	}
	return all
}

// fixedBy returns the items that the list leaves as they are.
func fixedBy(list []int) []int {
	var fixed []int
	for item, end := range list {
		if item == end {
			fixed = append(fixed, item)
		}
	}
	return fixed
}

// isPairing reports whether both lists are a pairing, by the document's words.
func (r relation) isPairing(to relation, f []int, g []int) bool {
	if !r.takes(len(to), f) || !to.takes(len(r), g) {
		return false
	}
	for x := range r {
		for y := range to {
			if to.isUp(f[x], y) != r.isUp(x, g[y]) {
				return false
			}
		}
	}
	return true
}

// pairOf returns the list that is a pairing with the list, and whether there is one, by the document's words.
func (r relation) pairOf(to relation, f []int) ([]int, bool) {
	if !r.takes(len(to), f) {
		return nil, false
	}
	var g []int
	for y := range to {
		isNoStart := func(x int) bool { return !to.isUp(f[x], y) }
		starts := slices.DeleteFunc(allNumbers(len(r)), isNoStart)
		isTop := func(x int) bool { return r.isAtOrAbove(x, starts) }
		at := slices.IndexFunc(starts, isTop)
		if at < 0 {
			return nil, false
		}
		g = append(g, starts[at])
	}
	return g, r.isPairing(to, f, g)
}

// shapesUpTo returns orders of up to so many items, one of each shape.
func shapesUpTo(most int) [][]int {
	var all [][]int
	for n := range most + 1 {
		all = append(all, shapesOf(n)...)
	}
	return all
}

// ordersToRise are pairs of orders of up to four items: all, with one of each shape.
var ordersToRise = sync.OnceValue(func() []pair {
	shapes := shapesUpTo(4)
	var all []pair
	for n := range 5 {
		for _, up := range ordersOf(n) {
			for _, shape := range shapes {
				all = append(all, pair{up, shape}, pair{shape, up})
			}
		}
	}
	return all
})

// fewOrdersToRise are all pairs of orders of up to three items each.
func fewOrdersToRise() []pair {
	var few [][]int
	for n := range 4 {
		few = append(few, ordersOf(n)...)
	}
	var all []pair
	for _, a := range few {
		for _, b := range few {
			all = append(all, pair{a, b})
		}
	}
	return all
}

// largeOrdersToRise are pairs of orders of which one has five or six items.
func largeOrdersToRise() []pair {
	orders := slices.Concat(namedOrders(), broadOrders(20), shapesOfFive())
	var all []pair
	for i, a := range orders {
		b := orders[(i*7+3)%len(orders)]
		all = append(all, pair{a, b}, pair{b, a}, pair{a, a})
	}
	return slices.DeleteFunc(all, func(p pair) bool { return max(len(p.a), len(p.b)) < 5 })
}

// some returns at most so many of the lists, the first one among them.
func some(many int, all [][]int) [][]int {
	var found [][]int
	step := max(1, (len(all)+many-1)/many)
	for at := 0; at < len(all); at += step {
		found = append(found, all[at])
	}
	return found
}

// takings ranges over pairs of orders, each with lists of an item of the second one for each item of
// the first one: all lists for up to four items, and of more some that rise, and some like these.
func takings(yield func(p pair, list []int) bool) {
	for _, p := range ordersToRise() {
		for list := range listsInto(len(p.a), len(p.b)) {
			if !yield(p, list) {
				return
			}
		}
	}
	for _, p := range largeOrdersToRise() {
		for i, list := range some(100, relationOf(p.a).risingLists(relationOf(p.b))) {
			if !yield(p, list) {
				return
			}
			if len(list) > 0 {
				other := slices.Clone(list)
				other[i%len(list)] = i / 3 % len(p.b)
				if !yield(p, other) {
					return
				}
			}
		}
	}
}

// risings ranges over those of takings that rise, by the document's words.
func risings(yield func(p pair, list []int) bool) {
	for p, list := range takings {
		if relationOf(p.a).isRising(relationOf(p.b), list) && !yield(p, list) {
			return
		}
	}
}

// paired is two orders, with a list from the first one to the second one, and one back.
type paired struct{ a, b, f, g []int }

// pairings ranges over pairs of orders, with two lists that are a pairing, by the document's words.
func pairings(yield func(p paired) bool) {
	all := slices.Concat(ordersToRise(), largeOrdersToRise())
	for _, up := range lattices() {
		if len(up) > 4 {
			all = append(all, pair{up, up}, pair{up, []int{14, 8, 8, 0}}, pair{[]int{0, 1, 3}, up})
		}
	}
	for _, p := range all {
		a, b := relationOf(p.a), relationOf(p.b)
		for _, f := range some(1000, a.risingLists(b)) {
			if g, ok := a.pairOf(b, f); ok && !yield(paired{p.a, p.b, f, g}) {
				return
			}
		}
	}
}

func TestIsRising(t *testing.T) {
	two, fork, diamond, apart := []int{2, 0}, []int{6, 0, 0}, []int{14, 8, 8, 0}, []int{0, 0}
	upward, downward := []int{62, 60, 56, 48, 32, 0}, []int{0, 1, 3, 7, 15, 31}
	cases := []struct {
		a, b, f []int
		want    bool
	}{
		// No items in one order, or in both.
		{nil, nil, nil, true},
		{[]int{}, []int{}, []int{}, true},
		{nil, []int{0}, nil, true},
		{nil, upward, []int{}, true},
		{[]int{0}, nil, nil, false},
		{[]int{0}, nil, []int{0}, false},
		{nil, nil, []int{0}, false},
		{nil, []int{0}, []int{0}, false},
		// One item.
		{[]int{0}, []int{0}, []int{0}, true},
		{[]int{0}, two, []int{1}, true},
		{two, []int{0}, []int{0, 0}, true},
		{diamond, []int{0}, []int{0, 0, 0, 0}, true},
		{two, two, []int{0, 0}, true},
		{two, two, []int{0, 1}, true},
		{two, two, []int{1, 1}, true},
		{two, two, []int{1, 0}, false},
		{[]int{0, 1}, two, []int{1, 0}, true},
		{[]int{0, 1}, two, []int{0, 1}, false},
		// Items that are not above each other may be taken to any ones.
		{apart, two, []int{1, 0}, true},
		{apart, two, []int{0, 1}, true},
		{two, apart, []int{0, 0}, true},
		{two, apart, []int{0, 1}, false},
		{two, apart, []int{1, 0}, false},
		{fork, two, []int{0, 1, 0}, true},
		{fork, two, []int{0, 0, 1}, true},
		{fork, two, []int{1, 1, 0}, false},
		{fork, two, []int{1, 0, 1}, false},
		{diamond, diamond, []int{0, 2, 1, 3}, true},
		{diamond, diamond, []int{1, 1, 3, 3}, true},
		{diamond, diamond, []int{1, 1, 2, 3}, false},
		{diamond, diamond, []int{0, 1, 3, 2}, false},
		{diamond, fork, []int{0, 1, 0, 1}, true},
		{diamond, fork, []int{0, 1, 2, 1}, false},
		// As many items as there may be.
		{upward, upward, []int{0, 1, 2, 3, 4, 5}, true},
		{upward, upward, []int{0, 0, 2, 2, 5, 5}, true},
		{upward, upward, []int{0, 1, 2, 3, 5, 4}, false},
		{upward, upward, []int{1, 0, 2, 3, 4, 5}, false},
		{upward, downward, []int{5, 4, 3, 2, 1, 0}, true},
		{upward, downward, []int{0, 1, 2, 3, 4, 5}, false},
		{make([]int, 6), upward, []int{3, 0, 5, 1, 0, 2}, true},
		{upward, make([]int, 6), []int{4, 4, 4, 4, 4, 4}, true},
		{upward, make([]int, 6), []int{4, 4, 4, 4, 4, 5}, false},
	}
	for _, c := range cases {
		if got := impl.IsRising(c.a, c.b, c.f); got != c.want {
			t.Errorf("IsRising(%v, %v, %v) = %v", c.a, c.b, c.f, got)
		}
	}
}

func TestIsRisingByItsWords(t *testing.T) {
	rise, fall := 0, 0
	for p, list := range takings {
		want := relationOf(p.a).isRising(relationOf(p.b), list)
		if got := impl.IsRising(p.a, p.b, list); got != want {
			t.Fatalf("IsRising(%v, %v, %v) = %v", p.a, p.b, list, got)
		}
		if want {
			rise++
		} else {
			fall++
		}
	}
	if rise == 0 || fall == 0 {
		t.Errorf("%d lists rise, and %d do not", rise, fall)
	}
}

// checkNotTaken checks the results for a list that has not an item of the second order for each one of the first.
func checkNotTaken(t *testing.T, a []int, b []int, list []int) {
	t.Helper()
	if impl.IsRising(a, b, list) {
		t.Fatalf("IsRising(%v, %v, %v) holds", a, b, list)
	}
	if got, ok := impl.PairOf(a, b, list); ok || len(got) != 0 {
		t.Fatalf("PairOf(%v, %v, %v) = %v, %v", a, b, list, got, ok)
	}
	for _, other := range [][]int{nil, make([]int, len(b)), allNumbers(len(b)), list} {
		if impl.IsPairing(a, b, list, other) {
			t.Fatalf("IsPairing(%v, %v, %v, %v) holds", a, b, list, other)
		}
		if impl.IsPairing(b, a, other, list) {
			t.Fatalf("IsPairing(%v, %v, %v, %v) holds", b, a, other, list)
		}
	}
	if same(a, b) {
		checkNothingFixed(t, a, list)
	}
}

// checkNothingFixed checks the results for a list that does not rise, or for an order that is none.
func checkNothingFixed(t *testing.T, up []int, list []int) {
	t.Helper()
	if fixed, least := impl.FixedOf(up, list), impl.LeastFixed(up, list); fixed != -1 || least != -1 {
		t.Fatalf("FixedOf and LeastFixed of %v, %v = %d and %d", up, list, fixed, least)
	}
}

func TestListsOfAnotherLength(t *testing.T) {
	for _, p := range append(fewOrdersToRise(), largeOrdersToRise()...) {
		for length := range 8 {
			if length != len(p.a) {
				checkNotTaken(t, p.a, p.b, make([]int, length))
				checkNotTaken(t, p.a, p.b, slices.Repeat([]int{len(p.b) - 1}, length))
			}
		}
		checkNotTaken(t, p.a, p.b, make([]int, 1000))
	}
	for _, up := range lineOrders() {
		all := allNumbers(len(up))
		checkNotTaken(t, up, up, append(all, 0))
		if len(up) > 0 {
			checkNotTaken(t, up, up, nil)
			checkNotTaken(t, up, up, []int{})
			checkNotTaken(t, up, up, all[1:])
			checkNotTaken(t, up, up, all[:len(up)-1])
		}
	}
}

func TestListsWithAnItemThatIsNotThere(t *testing.T) {
	for _, p := range append(fewOrdersToRise(), largeOrdersToRise()...) {
		for _, bad := range badItems(len(p.b)) {
			for at := range p.a {
				list := make([]int, len(p.a))
				list[at] = bad
				checkNotTaken(t, p.a, p.b, list)
				checkNotTaken(t, p.a, p.b, slices.Repeat([]int{bad}, len(p.a)))
			}
		}
	}
	for _, up := range lineOrders() {
		for _, bad := range badItems(len(up)) {
			for at := range up {
				list := allNumbers(len(up))
				list[at] = bad
				checkNotTaken(t, up, up, list)
			}
		}
	}
}

// The lists also have numbers one below and one above those that there are.
func TestAllShortListsThatHaveNotAllItems(t *testing.T) {
	for _, p := range fewOrdersToRise() {
		for length := range len(p.a) + 2 {
			for list := range lists(length, -1, len(p.b)) {
				if !relationOf(p.a).takes(len(p.b), list) {
					checkNotTaken(t, p.a, p.b, list)
				}
			}
		}
	}
}

func TestCountRising(t *testing.T) {
	two, fork, joined, diamond, apart := []int{2, 0}, []int{6, 0, 0}, []int{4, 4, 0}, []int{14, 8, 8, 0}, []int{0, 0}
	five, fives := []int{30, 28, 24, 16, 0}, make([]int, 5)
	six := []int{62, 60, 56, 48, 32, 0}
	cases := []struct {
		a, b []int
		want int
	}{
		// No items in one order, or in both.
		{nil, nil, 1},
		{[]int{}, nil, 1},
		{nil, []int{0}, 1},
		{nil, fives, 1},
		{[]int{0}, nil, 0},
		{apart, []int{}, 0},
		{fives, nil, 0},
		{[]int{0}, []int{0}, 1},
		{[]int{0}, diamond, 4},
		{diamond, []int{0}, 1},
		{two, two, 3},
		{[]int{0, 1}, two, 3},
		{two, []int{0, 1}, 3},
		{apart, two, 4},
		{two, apart, 2},
		{apart, apart, 4},
		{fork, two, 5},
		{joined, two, 5},
		{two, fork, 5},
		{two, joined, 5},
		{fork, joined, 9},
		{two, diamond, 9},
		{diamond, two, 6},
		{[]int{6, 4, 0}, []int{6, 4, 0}, 10},
		{[]int{2, 0, 10, 0}, two, 8},
		{[]int{2, 0, 8, 0}, two, 9},
		// As many items as are tried, and one more.
		{five, five, 126},
		{five, []int{0, 1, 3, 7, 15}, 126},
		{five, fives, 5},
		{fives, five, 3125},
		{fives, fives, 3125},
		{five, two, 6},
		{two, five, 15},
		{six, six, -1},
		{six, two, -1},
		{two, six, -1},
		{six, nil, -1},
		{nil, six, -1},
		{make([]int, 6), five, -1},
		{five, make([]int, 6), -1},
	}
	for _, c := range cases {
		if got := impl.CountRising(c.a, c.b); got != c.want {
			t.Errorf("CountRising(%v, %v) = %d, not %d", c.a, c.b, got, c.want)
		}
	}
}

func TestCountRisingByItsWords(t *testing.T) {
	for _, p := range ordersToRise() {
		a, b, want := relationOf(p.a), relationOf(p.b), 0
		for list := range listsInto(len(p.a), len(p.b)) {
			if a.isRising(b, list) {
				want++
			}
		}
		if got := impl.CountRising(p.a, p.b); got != want {
			t.Fatalf("CountRising(%v, %v) = %d, not %d", p.a, p.b, got, want)
		}
	}
}

func TestCountRisingOfFiveAndSixItemsByItsWords(t *testing.T) {
	for _, p := range largeOrdersToRise() {
		want := -1
		if max(len(p.a), len(p.b)) <= impl.MaxTried {
			want = len(relationOf(p.a).risingLists(relationOf(p.b)))
		}
		if got := impl.CountRising(p.a, p.b); got != want {
			t.Fatalf("CountRising(%v, %v) = %d, not %d", p.a, p.b, got, want)
		}
	}
}

func TestFixedOfAndLeastFixed(t *testing.T) {
	two, fork, diamond, apart := []int{2, 0}, []int{6, 0, 0}, []int{14, 8, 8, 0}, []int{0, 0}
	broad := []int{30, 16, 16, 16, 0}
	upward, downward := []int{62, 60, 56, 48, 32, 0}, []int{0, 1, 3, 7, 15, 31}
	crossed := []int{62, 56, 56, 32, 32, 0}
	cases := []struct {
		up, f        []int
		fixed, least int
	}{
		// No items are no lattice.
		{nil, nil, 0, -1},
		{[]int{}, []int{}, 0, -1},
		{nil, []int{0}, -1, -1},
		{[]int{0}, []int{0}, 1, 0},
		{[]int{0}, nil, -1, -1},
		{two, []int{0, 0}, 1, 0},
		{two, []int{0, 1}, 3, 0},
		{two, []int{1, 1}, 2, 1},
		{two, []int{1, 0}, -1, -1},
		{[]int{0, 1}, []int{0, 1}, 3, 1},
		{[]int{0, 1}, []int{0, 0}, 1, 0},
		{[]int{0, 1}, []int{1, 1}, 2, 1},
		{[]int{0, 1}, []int{1, 0}, -1, -1},
		{diamond, []int{0, 1, 2, 3}, 15, 0},
		{diamond, []int{0, 2, 1, 3}, 9, 0},
		{diamond, []int{1, 1, 3, 3}, 10, 1},
		{diamond, []int{2, 3, 2, 3}, 12, 2},
		{diamond, []int{1, 3, 3, 3}, 8, 3},
		{diamond, []int{3, 3, 3, 3}, 8, 3},
		{diamond, []int{0, 0, 0, 0}, 1, 0},
		{diamond, []int{1, 1, 1, 2}, -1, -1},
		{diamond, []int{3, 2, 1, 0}, -1, -1},
		{broad, []int{0, 2, 3, 1, 4}, 17, 0},
		{broad, []int{2, 4, 2, 4, 4}, 20, 2},
		{broad, []int{2, 2, 2, 2, 2}, 4, 2},
		// As many items as there may be.
		{upward, []int{1, 2, 3, 4, 5, 5}, 32, 5},
		{upward, []int{1, 1, 3, 3, 5, 5}, 42, 1},
		{upward, []int{0, 1, 2, 3, 4, 5}, 63, 0},
		{downward, []int{0, 1, 2, 3, 4, 5}, 63, 5},
		{downward, []int{0, 0, 1, 2, 3, 4}, 1, 0},
		{downward, []int{1, 1, 1, 4, 4, 4}, 18, 4},
		{upward, []int{5, 4, 3, 2, 1, 0}, -1, -1},
		// Orders that are no lattices, with an item below all, with one above all, and with both.
		{apart, []int{0, 1}, 3, -1},
		{apart, []int{1, 0}, 0, -1},
		{apart, []int{0, 0}, 1, -1},
		{fork, []int{0, 1, 2}, 7, -1},
		{fork, []int{0, 2, 1}, 1, -1},
		{fork, []int{1, 1, 1}, 2, -1},
		{fork, []int{1, 0, 0}, -1, -1},
		{[]int{4, 4, 0}, []int{1, 0, 2}, 4, -1},
		{crossed, []int{0, 1, 2, 3, 4, 5}, 63, -1},
		{crossed, []int{0, 2, 1, 4, 3, 5}, 33, -1},
		{make([]int, 6), []int{1, 2, 3, 4, 5, 0}, 0, -1},
	}
	for _, c := range cases {
		if fixed, least := impl.FixedOf(c.up, c.f), impl.LeastFixed(c.up, c.f); fixed != c.fixed || least != c.least {
			t.Errorf("FixedOf and LeastFixed of %v, %v = %d and %d, not %d and %d", c.up, c.f, fixed, least, c.fixed, c.least)
		}
	}
}

// selfTakings ranges over orders with lists of an item for each item: all lists for up to four items,
// for lattices of up to six all that rise, and for other orders of five and six some that rise; and
// for these of five and six items also some like these.
func selfTakings(yield func(up []int, list []int) bool) {
	for n := range 5 {
		for _, up := range ordersOf(n) {
			for list := range listsInto(n, n) {
				if !yield(up, list) {
					return
				}
			}
		}
	}
	large := slices.Concat(lattices(), shapesOfFive(), broadOrders(50), namedOrders())
	for _, up := range large {
		if len(up) < 5 {
			continue
		}
		many := 100
		if relationOf(up).isLattice() {
			many = math.MaxInt32
		}
		for i, list := range some(many, relationOf(up).risingLists(relationOf(up))) {
			other := slices.Clone(list)
			other[i%len(list)] = i / 3 % len(list)
			if !yield(up, list) || !yield(up, other) {
				return
			}
		}
	}
}

func TestFixedOfAndLeastFixedByTheirWords(t *testing.T) {
	rising, leasts := 0, 0
	for up, list := range selfTakings {
		above, fixed, least := relationOf(up), -1, -1
		if above.isRising(above, list) {
			rising++
			stay := fixedBy(list)
			fixed = setOf(stay)
			if above.isLattice() {
				leasts++
				isLeast := func(item int) bool { return above.isAtOrBelow(item, stay) }
				least = stay[slices.IndexFunc(stay, isLeast)]
			}
		}
		if gotFixed, gotLeast := impl.FixedOf(up, list), impl.LeastFixed(up, list); gotFixed != fixed || gotLeast != least {
			t.Fatalf("FixedOf and LeastFixed of %v, %v = %d and %d, not %d and %d", up, list, gotFixed, gotLeast, fixed, least)
		}
	}
	if leasts == 0 || rising == leasts {
		t.Errorf("%d lists rise, %d of them in lattices", rising, leasts)
	}
}

func TestIsPairingAndPairOf(t *testing.T) {
	two, three, apart := []int{2, 0}, []int{6, 4, 0}, []int{0, 0}
	fork, joined, diamond := []int{6, 0, 0}, []int{4, 4, 0}, []int{14, 8, 8, 0}
	upward, downward := []int{62, 60, 56, 48, 32, 0}, []int{0, 1, 3, 7, 15, 31}
	cases := []struct{ a, b, f, g []int }{
		{nil, nil, nil, nil},
		{[]int{}, []int{}, []int{}, []int{}},
		{[]int{0}, []int{0}, []int{0}, []int{0}},
		{two, []int{0}, []int{0, 0}, []int{1}},
		{[]int{0, 1}, []int{0}, []int{0, 0}, []int{0}},
		{[]int{0}, two, []int{0}, []int{0, 0}},
		{two, two, []int{0, 1}, []int{0, 1}},
		{two, two, []int{0, 0}, []int{1, 1}},
		{[]int{0, 1}, two, []int{1, 0}, []int{1, 0}},
		{three, two, []int{0, 0, 1}, []int{1, 2}},
		{three, two, []int{0, 1, 1}, []int{0, 2}},
		{two, three, []int{0, 1}, []int{0, 1, 1}},
		{two, three, []int{0, 2}, []int{0, 0, 1}},
		{three, three, []int{0, 0, 0}, []int{2, 2, 2}},
		// Lists that do not lead back as they lead there.
		{three, []int{0, 5, 1}, []int{1, 2, 0}, []int{2, 0, 1}},
		{apart, apart, []int{0, 1}, []int{0, 1}},
		{apart, apart, []int{1, 0}, []int{1, 0}},
		{make([]int, 3), make([]int, 3), []int{1, 2, 0}, []int{2, 0, 1}},
		{joined, []int{0}, []int{0, 0, 0}, []int{2}},
		{[]int{0}, fork, []int{0}, []int{0, 0, 0}},
		{joined, fork, []int{0, 0, 0}, []int{2, 2, 2}},
		{diamond, two, []int{0, 0, 1, 1}, []int{1, 3}},
		{diamond, two, []int{0, 1, 1, 1}, []int{0, 3}},
		{two, diamond, []int{0, 1}, []int{0, 1, 0, 1}},
		{two, diamond, []int{0, 3}, []int{0, 0, 0, 1}},
		{diamond, diamond, []int{0, 2, 1, 3}, []int{0, 2, 1, 3}},
		{diamond, diamond, []int{0, 1, 0, 1}, []int{2, 3, 2, 3}},
		{upward, upward, []int{0, 1, 2, 3, 4, 5}, []int{0, 1, 2, 3, 4, 5}},
		{upward, upward, []int{0, 0, 1, 1, 5, 5}, []int{1, 3, 3, 3, 3, 5}},
		{upward, downward, []int{5, 4, 3, 2, 1, 0}, []int{5, 4, 3, 2, 1, 0}},
		{upward, []int{0}, make([]int, 6), []int{5}},
		{[]int{0}, downward, []int{5}, make([]int, 6)},
	}
	for _, c := range cases {
		if !impl.IsPairing(c.a, c.b, c.f, c.g) {
			t.Errorf("IsPairing(%v, %v, %v, %v) does not hold", c.a, c.b, c.f, c.g)
		}
		if got, ok := impl.PairOf(c.a, c.b, c.f); !ok || !same(got, c.g) {
			t.Errorf("PairOf(%v, %v, %v) = %v, %v, not %v", c.a, c.b, c.f, got, ok, c.g)
		}
	}
}

// checkNoPair checks that no other list makes a pairing of the list.
func checkNoPair(t *testing.T, a []int, b []int, f []int) {
	t.Helper()
	if got, ok := impl.PairOf(a, b, f); ok || len(got) != 0 {
		t.Fatalf("PairOf(%v, %v, %v) = %v, %v", a, b, f, got, ok)
	}
	for g := range listsInto(len(b), len(a)) {
		if impl.IsPairing(a, b, f, g) {
			t.Fatalf("IsPairing(%v, %v, %v, %v) holds", a, b, f, g)
		}
	}
}

func TestListsOfWhichNoOtherMakesAPairing(t *testing.T) {
	two, three, apart := []int{2, 0}, []int{6, 4, 0}, []int{0, 0}
	fork, joined, diamond := []int{6, 0, 0}, []int{4, 4, 0}, []int{14, 8, 8, 0}
	cases := []struct{ a, b, f []int }{
		// No items in one order: there is none to be taken to.
		{nil, []int{0}, nil},
		{nil, two, []int{}},
		{[]int{0}, nil, nil},
		{two, []int{}, []int{}},
		// None is at or below the lowest end.
		{two, two, []int{1, 1}},
		{[]int{0}, two, []int{1}},
		{[]int{0}, apart, []int{0}},
		{[]int{0}, joined, []int{0}},
		{[]int{0}, joined, []int{2}},
		{apart, apart, []int{0, 0}},
		// Some are, but none of them is above all others.
		{apart, []int{0}, []int{0, 0}},
		{fork, []int{0}, []int{0, 0, 0}},
		{fork, two, []int{0, 0, 0}},
		{fork, two, []int{0, 1, 1}},
		{diamond, two, []int{0, 0, 0, 1}},
		{diamond, diamond, []int{0, 0, 0, 3}},
		{diamond, diamond, []int{0, 0, 0, 1}},
		// Lists that do not rise.
		{two, two, []int{1, 0}},
		{diamond, two, []int{1, 0, 0, 0}},
		// These have an item above all others for each end, but the list does not rise.
		{three, two, []int{0, 1, 0}},
		{[]int{14, 12, 8, 0}, two, []int{0, 1, 1, 0}},
		{diamond, two, []int{0, 1, 1, 0}},
		{diamond, apart, []int{0, 1, 0, 0}},
	}
	for _, c := range cases {
		checkNoPair(t, c.a, c.b, c.f)
	}
}

func TestIsPairingByItsWords(t *testing.T) {
	are, areNot := 0, 0
	for _, p := range fewOrdersToRise() {
		a, b := relationOf(p.a), relationOf(p.b)
		for f := range listsInto(len(p.a), len(p.b)) {
			for g := range listsInto(len(p.b), len(p.a)) {
				want := a.isPairing(b, f, g)
				if got := impl.IsPairing(p.a, p.b, f, g); got != want {
					t.Fatalf("IsPairing(%v, %v, %v, %v) = %v", p.a, p.b, f, g, got)
				}
				if want {
					are++
				} else {
					areNot++
				}
			}
		}
	}
	if are == 0 || areNot == 0 {
		t.Errorf("%d are pairings, %d are not", are, areNot)
	}
}

// Of lists that are a pairing, none but the one that there is makes it.
func TestIsPairingOfListsThatAreNearlyOne(t *testing.T) {
	for p := range pairings {
		f, g := p.f, p.g
		if !impl.IsPairing(p.a, p.b, f, g) {
			t.Fatalf("IsPairing(%v, %v, %v, %v) does not hold", p.a, p.b, f, g)
		}
		for end := range g {
			for item := range p.a {
				other := slices.Clone(g)
				other[end] = item
				if got := impl.IsPairing(p.a, p.b, f, other); got != (item == g[end]) {
					t.Fatalf("IsPairing(%v, %v, %v, %v) = %v", p.a, p.b, f, other, got)
				}
			}
		}
		for _, bad := range badItems(len(p.a)) {
			if len(g) > 0 && impl.IsPairing(p.a, p.b, f, append([]int{bad}, g[1:]...)) {
				t.Fatalf("IsPairing(%v, %v, %v, %d and %v) holds", p.a, p.b, f, bad, g[1:])
			}
		}
		if impl.IsPairing(p.a, p.b, f, append(slices.Clone(g), 0)) || len(g) > 0 && impl.IsPairing(p.a, p.b, f, g[1:]) {
			t.Fatalf("IsPairing(%v, %v, %v) holds with a list longer or shorter than %v", p.a, p.b, f, g)
		}
	}
}

func TestPairOfByItsWords(t *testing.T) {
	with, without := 0, 0
	for p, f := range takings {
		want, isThere := relationOf(p.a).pairOf(relationOf(p.b), f)
		got, ok := impl.PairOf(p.a, p.b, f)
		if ok != isThere || isThere && !same(got, want) || !isThere && len(got) != 0 {
			t.Fatalf("PairOf(%v, %v, %v) = %v, %v, not %v, %v", p.a, p.b, f, got, ok, want, isThere)
		}
		if isThere {
			with++
		} else {
			without++
		}
	}
	if with == 0 || without == 0 {
		t.Errorf("%d lists have one that makes a pairing, %d have none", with, without)
	}
}

// All lists are tried, so that there is no other one where none is found, and just one where one is.
func TestPairOfByTryingAllLists(t *testing.T) {
	for _, p := range fewOrdersToRise() {
		a, b := relationOf(p.a), relationOf(p.b)
		for f := range listsInto(len(p.a), len(p.b)) {
			var found [][]int
			for g := range listsInto(len(p.b), len(p.a)) {
				if a.isPairing(b, f, g) {
					found = append(found, g)
				}
			}
			got, ok := impl.PairOf(p.a, p.b, f)
			if len(found) > 1 || ok != (len(found) == 1) || ok && !same(got, found[0]) || !ok && len(got) != 0 {
				t.Fatalf("PairOf(%v, %v, %v) = %v, %v, not one of %v", p.a, p.b, f, got, ok, found)
			}
		}
	}
}

// Promise 69, of lists that rise and of lists that do not.
func TestRisingTurnsRound(t *testing.T) {
	for p, list := range takings {
		rises := impl.IsRising(p.a, p.b, list)
		if dual := impl.IsRising(impl.DualOf(p.a), impl.DualOf(p.b), list); dual != rises {
			t.Fatalf("IsRising(%v, %v, %v) = %v, but %v turned round", p.a, p.b, list, rises, dual)
		}
	}
}

// Promise 69, too: that list rises by itself, and f goes on rising behind it.
func TestTheListThatLeavesAllRises(t *testing.T) {
	for _, up := range seriesOrders() {
		if all := allNumbers(len(up)); !impl.IsRising(up, up, all) {
			t.Fatalf("IsRising(%v, %v, %v) does not hold", up, up, all)
		}
	}
	for p, f := range risings {
		behind := make([]int, len(p.a))
		for item, at := range allNumbers(len(p.a)) {
			behind[item] = f[at]
		}
		if !impl.IsRising(p.a, p.a, allNumbers(len(p.a))) || !impl.IsRising(p.a, p.b, behind) {
			t.Fatalf("IsRising(%v, %v, %v) does not hold behind the list that leaves all", p.a, p.b, f)
		}
	}
}

// Promise 70, of all orders of up to five items, and of pairs of orders.
func TestToTwoStepsThereAreIdeals(t *testing.T) {
	for _, up := range triedOrders() {
		want := impl.CountIdeals(up)
		for _, two := range [][]int{{2, 0}, {0, 1}} {
			if got := impl.CountRising(up, two); got != want {
				t.Fatalf("CountRising(%v, %v) = %d, CountIdeals = %d", up, two, got, want)
			}
		}
		if got, selfMaps := impl.CountRising(up, up), impl.SelfMaps(up); got < selfMaps || selfMaps < 1 {
			t.Fatalf("CountRising(%v, %v) = %d, SelfMaps = %d", up, up, got, selfMaps)
		}
	}
}

// Promise 70, too.
func TestAsManyRiseTurnedRound(t *testing.T) {
	for _, p := range slices.Concat(ordersToRise(), largeOrdersToRise()) {
		count := impl.CountRising(p.a, p.b)
		if dual := impl.CountRising(impl.DualOf(p.a), impl.DualOf(p.b)); dual != count {
			t.Fatalf("CountRising(%v, %v) = %d, but %d turned round", p.a, p.b, count, dual)
		}
	}
}

// Promise 71.
func TestFixedItemsStay(t *testing.T) {
	for up, list := range selfTakings {
		if !relationOf(up).isRising(relationOf(up), list) {
			continue
		}
		fixed := impl.FixedOf(up, list)
		for item, end := range list {
			if isFixed := fixed/power(item)%2 == 1; isFixed != (item == end) {
				t.Fatalf("FixedOf(%v, %v) = %d", up, list, fixed)
			}
		}
		if fixed < 0 || fixed >= power(len(up)) {
			t.Fatalf("FixedOf(%v, %v) = %d", up, list, fixed)
		}
	}
}

// Promise 72, of all lists that rise from a lattice to itself, for all shapes of up to six items.
func TestInALatticeTheLeastThatStaysIsBelowAll(t *testing.T) {
	for _, up := range lattices() {
		for _, list := range relationOf(up).risingLists(relationOf(up)) {
			least, fixed := impl.LeastFixed(up, list), impl.FixedOf(up, list)
			if least < 0 || fixed/power(least)%2 != 1 {
				t.Fatalf("LeastFixed(%v, %v) = %d, FixedOf = %d", up, list, least, fixed)
			}
			for _, other := range membersOf(fixed) {
				if meet := impl.MeetOf(up, least, other); meet != least {
					t.Fatalf("LeastFixed(%v, %v) = %d, MeetOf it and %d = %d", up, list, least, other, meet)
				}
			}
		}
	}
}

func TestThereIsNoLeastFixedOfOrdersThatAreNoLattices(t *testing.T) {
	for _, up := range slices.Concat(seriesOrders(), badOrders()) {
		if impl.IsLattice(up) {
			continue
		}
		all := [][]int{nil, allNumbers(len(up)), make([]int, len(up))}
		if impl.ValidOrder(up) && len(up) < 5 {
			all = append(all, relationOf(up).risingLists(relationOf(up))...)
		}
		for _, list := range all {
			if got := impl.LeastFixed(up, list); got != -1 {
				t.Fatalf("LeastFixed(%v, %v) = %d", up, list, got)
			}
		}
	}
}

// Promise 73.
func TestPairsRiseAndTellEachOther(t *testing.T) {
	count := 0
	for p := range pairings {
		f, g := p.f, p.g
		count++
		if !impl.IsPairing(p.a, p.b, f, g) {
			t.Fatalf("IsPairing(%v, %v, %v, %v) does not hold", p.a, p.b, f, g)
		}
		if !impl.IsRising(p.a, p.b, f) || !impl.IsRising(p.b, p.a, g) {
			t.Fatalf("%v and %v of %v and %v are a pairing that does not rise", f, g, p.a, p.b)
		}
		if got, ok := impl.PairOf(p.a, p.b, f); !ok || !same(got, g) {
			t.Fatalf("PairOf(%v, %v, %v) = %v, %v, not %v", p.a, p.b, f, got, ok, g)
		}
	}
	if count < 1000 {
		t.Errorf("there are %d pairings", count)
	}
}

// Promise 73, too, of all lists of orders of up to three items for which IsPairing holds.
func TestAllShortPairsRiseAndTellEachOther(t *testing.T) {
	for _, p := range fewOrdersToRise() {
		for f := range listsInto(len(p.a), len(p.b)) {
			for g := range listsInto(len(p.b), len(p.a)) {
				if !impl.IsPairing(p.a, p.b, f, g) {
					continue
				}
				got, ok := impl.PairOf(p.a, p.b, f)
				if !ok || !same(got, g) || !impl.IsRising(p.a, p.b, f) || !impl.IsRising(p.b, p.a, g) {
					t.Fatalf("IsPairing(%v, %v, %v, %v) holds, PairOf = %v, %v", p.a, p.b, f, g, got, ok)
				}
			}
		}
	}
}

// Promise 74.
func TestWhatIsFoundIsAPairing(t *testing.T) {
	for p, f := range takings {
		g, ok := impl.PairOf(p.a, p.b, f)
		if !ok {
			continue
		}
		if !impl.IsPairing(p.a, p.b, f, g) {
			t.Fatalf("PairOf(%v, %v, %v) = %v, which is no pairing", p.a, p.b, f, g)
		}
		if !impl.IsPairing(impl.DualOf(p.b), impl.DualOf(p.a), g, f) {
			t.Fatalf("PairOf(%v, %v, %v) = %v, which is no pairing the other way round", p.a, p.b, f, g)
		}
		if back, ok := impl.PairOf(impl.DualOf(p.b), impl.DualOf(p.a), g); !ok || !same(back, f) {
			t.Fatalf("PairOf(%v, %v, %v) = %v, but %v, %v back", p.a, p.b, f, g, back, ok)
		}
	}
}

// checkNoOrderOfRising checks the results for a list that is no order, beside one that may be.
func checkNoOrderOfRising(t *testing.T, bad []int, other []int) {
	t.Helper()
	if got := []int{impl.CountRising(bad, other), impl.CountRising(other, bad)}; !same(got, []int{-1, -1}) {
		t.Fatalf("CountRising(%v, %v), and the other way round = %v", bad, other, got)
	}
	for _, p := range []pair{{bad, other}, {other, bad}} {
		checkNotTaken(t, p.a, p.b, nil)
		checkNotTaken(t, p.a, p.b, make([]int, len(p.a)))
		if len(p.a) <= len(p.b) {
			checkNotTaken(t, p.a, p.b, allNumbers(len(p.a)))
		}
	}
	for _, list := range [][]int{nil, allNumbers(len(bad)), make([]int, len(bad)), {0}, {1, 0}} {
		checkNothingFixed(t, bad, list)
	}
}

func TestBadOrdersHaveFixedResultsOfRising(t *testing.T) {
	others := append(badOrders(), namedOrders()...)
	// Lists that would be orders of one item more than there may be, and some that are nearly orders.
	bads := append(badOrders(), []int{2, 4, 0}, []int{0, 4, 1}, []int{6, 5, 3}, []int{6, 0, 8}, []int{-2, 0}, []int{1, 0}, []int{14, 8, 8, 16},
		[]int{0, 1, 3, 7, 15, 31, 63}, []int{62, 60, 56, 48, 32, 0, 0}, []int{126, 64, 64, 64, 64, 64, 0}, make([]int, 7))
	for _, bad := range bads {
		checkNoOrderOfRising(t, bad, bad)
		for _, other := range others {
			checkNoOrderOfRising(t, bad, other)
		}
	}
}

func TestListsAreNotWrittenIntoByRising(t *testing.T) {
	check := func(a []int, b []int, f []int, g []int) {
		t.Helper()
		roomA, roomB, roomF, roomG := roomy(a), roomy(b), roomy(f), roomy(g)
		impl.IsRising(roomA, roomB, roomF)
		impl.CountRising(roomA, roomB)
		impl.CountRising(roomA, roomA)
		impl.FixedOf(roomA, roomF)
		impl.LeastFixed(roomA, roomF)
		impl.IsPairing(roomA, roomB, roomF, roomG)
		impl.PairOf(roomA, roomB, roomF)
		if !roomIsKept(roomA, a) || !roomIsKept(roomB, b) || !roomIsKept(roomF, f) || !roomIsKept(roomG, g) {
			t.Fatalf("%v, %v, %v and %v are %v, %v, %v and %v after the calls", a, b, f, g, roomA, roomB, roomF, roomG)
		}
	}
	for p := range pairings {
		check(p.a, p.b, p.f, p.g)
	}
	for _, up := range append(lineOrders(), badOrders()...) {
		all := allNumbers(len(up))
		backwards := slices.Clone(all)
		slices.Reverse(backwards)
		for _, f := range [][]int{nil, {0}, {-1, 9}, make([]int, len(up)), all, backwards} {
			check(up, up, f, f)
			check(up, []int{2, 0}, f, all)
			check([]int{14, 8, 8, 0}, up, f, all)
		}
	}
	for _, up := range lattices() {
		check(up, up, slices.Repeat([]int{len(up) - 1}, len(up)), allNumbers(len(up)))
	}
}

func TestPairOfSharesNoMemory(t *testing.T) {
	for p := range pairings {
		checkSharesNoMemory(t, "PairOf with the list", func(list []int) []int {
			got, _ := impl.PairOf(p.a, p.b, list)
			return got
		}, p.f)
		checkSharesNoMemory(t, "PairOf with the first order", func(list []int) []int {
			got, _ := impl.PairOf(list, p.b, p.f)
			return got
		}, p.a)
		checkSharesNoMemory(t, "PairOf with the second order", func(list []int) []int {
			got, _ := impl.PairOf(p.a, list, p.f)
			return got
		}, p.b)
	}
	// The list that leaves all items as they are is a pairing with itself.
	for _, up := range seriesOrders() {
		all := allNumbers(len(up))
		if got, ok := impl.PairOf(up, up, all); !ok || !same(got, all) {
			t.Fatalf("PairOf(%v, %v, %v) = %v, %v", up, up, all, got, ok)
		}
		checkSharesNoMemory(t, "PairOf with all items", func(list []int) []int {
			got, _ := impl.PairOf(up, up, list)
			return got
		}, all)
	}
}

// These lists are orders and leave all items as they are, both.
func TestPairOfOneListThriceSharesNoMemory(t *testing.T) {
	for _, up := range [][]int{nil, {}, {0}, {0, 1}} {
		checkSharesNoMemory(t, "PairOf of one list thrice", func(list []int) []int {
			got, _ := impl.PairOf(list, list, list)
			return got
		}, up)
	}
}

// A result that was kept from an earlier call would be that of the lists as they were.
func TestRisingIsOfTheListsAsTheyAre(t *testing.T) {
	a, b, f := []int{6, 4, 0}, []int{6, 4, 0}, []int{0, 0, 1}
	check := func(rises bool, count int, fixed int, least int, g []int) {
		t.Helper()
		if got := impl.IsRising(a, b, f); got != rises {
			t.Errorf("IsRising(%v, %v, %v) = %v", a, b, f, got)
		}
		if got := impl.CountRising(a, b); got != count {
			t.Errorf("CountRising(%v, %v) = %d, not %d", a, b, got, count)
		}
		if gotFixed, gotLeast := impl.FixedOf(a, f), impl.LeastFixed(a, f); gotFixed != fixed || gotLeast != least {
			t.Errorf("FixedOf and LeastFixed of %v, %v = %d and %d", a, f, gotFixed, gotLeast)
		}
		if got, ok := impl.PairOf(a, b, f); ok != (g != nil) || !same(got, g) || ok != impl.IsPairing(a, b, f, g) {
			t.Errorf("PairOf(%v, %v, %v) = %v, %v", a, b, f, got, ok)
		}
	}
	check(true, 10, 1, 0, []int{1, 2, 2})
	copy(f, []int{0, 1, 2})
	check(true, 10, 7, 0, []int{0, 1, 2})
	copy(b, []int{0, 1, 3})
	check(false, 10, 7, 0, nil)
	copy(a, []int{0, 1, 3})
	check(true, 10, 7, 2, []int{0, 1, 2})
	copy(f, []int{0, 0, 2})
	check(true, 10, 5, 2, []int{0, 2, 2})
	copy(a, []int{0, 0, 0})
	check(true, 27, 5, -1, nil)
}

func TestRisingIsToldAtTheSameTime(t *testing.T) {
	var group sync.WaitGroup
	for _, p := range fewOrdersToRise() {
		a, b := relationOf(p.a), relationOf(p.b)
		all := a.risingLists(b)
		group.Go(func() {
			if got := impl.CountRising(p.a, p.b); got != len(all) {
				t.Errorf("CountRising(%v, %v) = %d", p.a, p.b, got)
			}
			for _, f := range all {
				want, isThere := a.pairOf(b, f)
				if got, ok := impl.PairOf(p.a, p.b, f); ok != isThere || ok && !same(got, want) {
					t.Errorf("PairOf(%v, %v, %v) = %v, %v", p.a, p.b, f, got, ok)
				}
			}
		})
	}
	group.Wait()
}
