package tests

import (
	"math"
	"slices"
	"testing"

	"loop.example/ordersthatbranch/impl"
)

// sign returns the number of both items, as less the sum of those that the document names.
func (r relation) sign(a int, b int) int {
	if a == b {
		return 1
	}
	if !r[a][b] {
		return 0
	}
	sum := r.sign(a, a)
	for item := range r {
		if r[a][item] && r[item][b] {
			sum += r.sign(a, item)
		}
	}
	return -sum
}

// signByChains returns 1 for each chain from a to b of an odd number of items, less 1 for each other one.
func (r relation) signByChains(a int, b int) int {
	sum := 0
	var climb func(at int, sign int)
	climb = func(at int, sign int) {
		if at == b {
			sum += sign
		}
		for next := range r {
			if r[at][next] {
				climb(next, -sign)
			}
		}
	}
	climb(a, 1)
	return sum
}

// sumsBelow returns for each item the sum of the values of it and of all items below it.
func (r relation) sumsBelow(values []int) []int {
	sums := slices.Clone(values)
	for low := range r {
		for high := range r {
			if r[low][high] {
				sums[high] += values[low]
			}
		}
	}
	return sums
}

// undoSums returns for each item the sum, over all items b, of the sum at b times the sign of b and the item.
func (r relation) undoSums(sums []int) []int {
	values := make([]int, len(r))
	for item := range r {
		for b := range r {
			values[item] += sums[b] * r.sign(b, item)
		}
	}
	return values
}

// rises reports whether the numbers of no items fall, or are the same if they may not be, to one above.
func (r relation) rises(numbers []int, maySame bool) bool {
	for low := range r {
		for high := range r {
			if r[low][high] && (numbers[low] > numbers[high] || numbers[low] == numbers[high] && !maySame) {
				return false
			}
		}
	}
	return true
}

// numberings returns for each number k from 0 up to 4 in how many ways each item has a number from 1 to k that rises.
func (r relation) numberings(maySame bool) []int {
	counts := make([]int, 5)
	for numbers := range lists(len(r), 1, 4) {
		if !r.rises(numbers, maySame) {
			continue
		}
		greatest := 0
		for _, number := range numbers {
			greatest = max(greatest, number)
		}
		for k := greatest; k <= 4; k++ {
			counts[k]++
		}
	}
	return counts
}

// tooGreat reports whether there is a number beyond the limits in the list.
func tooGreat(list []int) bool {
	return slices.ContainsFunc(list, func(value int) bool { return value > 1000 || value < -1000 })
}

// valueLists returns lists of n values: of the same one, of one alone, and of others by a fixed short rule.
func valueLists(n int) [][]int {
	var all [][]int
	for _, value := range []int{0, 1, -1, 166, 200, 1000, -1000} {
		all = append(all, slices.Repeat([]int{value}, n))
	}
	for item := range n {
		for _, value := range []int{1, -1000, 1000} {
			list := make([]int, n)
			list[item] = value
			all = append(all, list)
		}
	}
	for _, limit := range []int{3, 40, 150, 500, 1000} {
		list := make([]int, n)
		for item := range list {
			list[item] = (item+2)*(item+limit)*7919%(2*limit+1) - limit
		}
		all = append(all, list)
	}
	return all
}

// badValueLists returns lists that are no values of n items: of another length, or with one beyond the limits.
func badValueLists(n int) [][]int {
	all := [][]int{make([]int, n+1), make([]int, n+2), make([]int, n+64)}
	if n > 0 {
		all = append(all, nil, []int{}, make([]int, n-1), slices.Repeat([]int{1000}, n-1))
	}
	for item := range n {
		for _, value := range []int{1001, -1001, 2000, -2000, 1 << 32, -1 << 32, math.MaxInt, math.MinInt} {
			list, others := make([]int, n), slices.Repeat([]int{-1000}, n)
			list[item], others[item] = value, value
			all = append(all, list, others)
		}
	}
	return all
}

func TestMaxValueAndMaxSteps(t *testing.T) {
	if impl.MaxValue != 1000 || impl.MaxSteps != 4 {
		t.Errorf("MaxValue, MaxSteps = %d, %d", impl.MaxValue, impl.MaxSteps)
	}
}

func TestSignOfAndSignByChains(t *testing.T) {
	diamond, broad, bent := []int{14, 8, 8, 0}, []int{30, 16, 16, 16, 0}, []int{30, 20, 16, 16, 0}
	crossed, pairs := []int{62, 56, 56, 32, 32, 0}, []int{62, 52, 32, 48, 32, 0}
	chain, turned := []int{62, 60, 56, 48, 32, 0}, []int{0, 1, 3, 7, 15, 31}
	cases := []struct {
		up         []int
		a, b, want int
	}{
		{[]int{0}, 0, 0, 1},
		{[]int{0, 0}, 0, 0, 1},
		{[]int{0, 0}, 1, 1, 1},
		{[]int{0, 0}, 0, 1, 0},
		{[]int{0, 0}, 1, 0, 0},
		{[]int{2, 0}, 0, 1, -1},
		{[]int{2, 0}, 1, 0, 0},
		{[]int{0, 1}, 0, 1, 0},
		{[]int{0, 1}, 1, 0, -1},
		{[]int{6, 4, 0}, 0, 2, 0},
		{[]int{6, 4, 0}, 1, 2, -1},
		{[]int{6, 0, 0}, 0, 2, -1},
		{[]int{6, 0, 0}, 1, 2, 0},
		{[]int{4, 4, 0}, 0, 2, -1},
		{diamond, 0, 3, 1},
		{diamond, 3, 0, 0},
		{diamond, 1, 2, 0},
		{diamond, 3, 3, 1},
		// The same, with the items numbered from the top down.
		{[]int{0, 1, 1, 7}, 3, 0, 1},
		{[]int{0, 1, 1, 7}, 0, 3, 0},
		{broad, 0, 4, 2},
		{broad, 0, 3, -1},
		{[]int{62, 32, 32, 32, 32, 0}, 0, 5, 3},
		{bent, 0, 2, 0},
		{bent, 0, 4, 1},
		// Numbers of both signs are summed.
		{crossed, 0, 3, 1},
		{crossed, 0, 4, 1},
		{crossed, 1, 5, 1},
		{crossed, 0, 5, -1},
		{pairs, 0, 4, 1},
		{pairs, 0, 5, 0},
		{pairs, 1, 5, 1},
		{[]int{56, 56, 56, 0, 0, 0}, 0, 3, -1},
		{[]int{56, 56, 56, 0, 0, 0}, 0, 1, 0},
		{chain, 0, 5, 0},
		{chain, 4, 5, -1},
		{chain, 5, 4, 0},
		{turned, 5, 4, -1},
		{turned, 5, 0, 0},
		{turned, 0, 5, 0},
		{make([]int, 6), 5, 5, 1},
		{make([]int, 6), 0, 5, 0},
	}
	for _, c := range cases {
		if got := impl.SignOf(c.up, c.a, c.b); got != c.want {
			t.Errorf("SignOf(%v, %d, %d) = %d, not %d", c.up, c.a, c.b, got, c.want)
		}
		if got := impl.SignByChains(c.up, c.a, c.b); got != c.want {
			t.Errorf("SignByChains(%v, %d, %d) = %d, not %d", c.up, c.a, c.b, got, c.want)
		}
	}
}

func TestSignOfAndSignByChainsByTheirWords(t *testing.T) {
	for _, up := range shapedOrders() {
		above := relationOf(up)
		for a := range up {
			for b := range up {
				if got, want := impl.SignOf(up, a, b), above.sign(a, b); got != want {
					t.Fatalf("SignOf(%v, %d, %d) = %d, not %d", up, a, b, got, want)
				}
				if got, want := impl.SignByChains(up, a, b), above.signByChains(a, b); got != want {
					t.Fatalf("SignByChains(%v, %d, %d) = %d, not %d", up, a, b, got, want)
				}
			}
		}
	}
}

// checkNoSigns checks the results for two numbers that are not both items of an order.
func checkNoSigns(t *testing.T, up []int, a int, b int) {
	t.Helper()
	if got := impl.SignOf(up, a, b); got != -1000 {
		t.Fatalf("SignOf(%v, %d, %d) = %d", up, a, b, got)
	}
	if got := impl.SignByChains(up, a, b); got != -1000 {
		t.Fatalf("SignByChains(%v, %d, %d) = %d", up, a, b, got)
	}
}

func TestSignsOfNumbersThatAreNoItems(t *testing.T) {
	for _, up := range goodOrders() {
		for _, bad := range badItems(len(up)) {
			checkNoSigns(t, up, bad, bad)
			for item := range 6 {
				checkNoSigns(t, up, item, bad)
				checkNoSigns(t, up, bad, item)
			}
		}
	}
	checkNoSigns(t, nil, 0, 0)
	checkNoSigns(t, []int{}, 0, 1)
	checkNoSigns(t, []int{0}, 0, 1)
	checkNoSigns(t, []int{0}, 1, 0)
	checkNoSigns(t, []int{0}, 1, 1)
}

func TestSumsBelowAndUndoSums(t *testing.T) {
	diamond, zigzag := []int{14, 8, 8, 0}, []int{2, 0, 10, 0}
	chain, turned := []int{62, 60, 56, 48, 32, 0}, []int{0, 1, 3, 7, 15, 31}
	cases := []struct{ up, values, sums []int }{
		{nil, nil, nil},
		{[]int{}, []int{}, []int{}},
		{[]int{0}, []int{0}, []int{0}},
		{[]int{0}, []int{1000}, []int{1000}},
		{[]int{0}, []int{-1000}, []int{-1000}},
		{[]int{0, 0}, []int{1000, -1000}, []int{1000, -1000}},
		{[]int{2, 0}, []int{3, 4}, []int{3, 7}},
		{[]int{0, 1}, []int{3, 4}, []int{7, 4}},
		{[]int{2, 0}, []int{500, 500}, []int{500, 1000}},
		{[]int{2, 0}, []int{-500, -500}, []int{-500, -1000}},
		{[]int{2, 0}, []int{1000, -1000}, []int{1000, 0}},
		{[]int{6, 4, 0}, []int{1, 2, 3}, []int{1, 3, 6}},
		{[]int{6, 0, 0}, []int{1, 2, 3}, []int{1, 3, 4}},
		{[]int{4, 4, 0}, []int{1, 2, 3}, []int{1, 2, 6}},
		{diamond, []int{1, 10, 100, 500}, []int{1, 11, 101, 611}},
		{diamond, []int{-1, 2, -3, 4}, []int{-1, 1, -4, 2}},
		{zigzag, []int{1, 10, 100, 500}, []int{1, 111, 100, 600}},
		{[]int{30, 16, 16, 16, 0}, []int{1, 2, 3, 4, 5}, []int{1, 3, 4, 5, 15}},
		{chain, []int{1, 2, 3, 4, 5, 6}, []int{1, 3, 6, 10, 15, 21}},
		{turned, []int{1, 2, 3, 4, 5, 6}, []int{21, 20, 18, 15, 11, 6}},
		{make([]int, 6), []int{1, -2, 3, -4, 5, -6}, []int{1, -2, 3, -4, 5, -6}},
	}
	for _, c := range cases {
		if got := impl.SumsBelow(c.up, c.values); !same(got, c.sums) {
			t.Errorf("SumsBelow(%v, %v) = %v, not %v", c.up, c.values, got, c.sums)
		}
		if got := impl.UndoSums(c.up, c.sums); !same(got, c.values) {
			t.Errorf("UndoSums(%v, %v) = %v, not %v", c.up, c.sums, got, c.values)
		}
	}
}

// Values within the limits may have sums beyond them, and the other way round: these are told all the same.
func TestSumsAndValuesBeyondTheLimits(t *testing.T) {
	cases := []struct{ up, list, sums, values []int }{
		{[]int{2, 0}, []int{1000, 1}, []int{1000, 1001}, []int{1000, -999}},
		{[]int{2, 0}, []int{1000, 1000}, []int{1000, 2000}, []int{1000, 0}},
		{[]int{2, 0}, []int{1000, -1000}, []int{1000, 0}, []int{1000, -2000}},
		{[]int{2, 0}, []int{-1000, 1000}, []int{-1000, 0}, []int{-1000, 2000}},
		{[]int{2, 0}, []int{-1000, -1000}, []int{-1000, -2000}, []int{-1000, 0}},
		{[]int{62, 60, 56, 48, 32, 0}, slices.Repeat([]int{1000}, 6), []int{1000, 2000, 3000, 4000, 5000, 6000}, []int{1000, 0, 0, 0, 0, 0}},
		{[]int{62, 32, 32, 32, 32, 0}, []int{1000, -1000, -1000, -1000, -1000, 1000}, []int{1000, 0, 0, 0, 0, -2000}, []int{1000, -2000, -2000, -2000, -2000, 8000}},
	}
	for _, c := range cases {
		if got := impl.SumsBelow(c.up, c.list); !same(got, c.sums) {
			t.Errorf("SumsBelow(%v, %v) = %v, not %v", c.up, c.list, got, c.sums)
		}
		if got := impl.UndoSums(c.up, c.list); !same(got, c.values) {
			t.Errorf("UndoSums(%v, %v) = %v, not %v", c.up, c.list, got, c.values)
		}
		if tooGreat(c.sums) {
			checkNoSums(t, c.up, c.sums)
		}
		if tooGreat(c.values) {
			checkNoSums(t, c.up, c.values)
		}
	}
}

func TestSumsBelowAndUndoSumsByTheirWords(t *testing.T) {
	for _, up := range goodOrders() {
		above := relationOf(up)
		for _, list := range valueLists(len(up)) {
			if got, want := impl.SumsBelow(up, list), above.sumsBelow(list); !same(got, want) {
				t.Fatalf("SumsBelow(%v, %v) = %v, not %v", up, list, got, want)
			}
			if got, want := impl.UndoSums(up, list), above.undoSums(list); !same(got, want) {
				t.Fatalf("UndoSums(%v, %v) = %v, not %v", up, list, got, want)
			}
		}
	}
}

// checkNoSums checks the results for a list that is neither values nor sums of an order.
func checkNoSums(t *testing.T, up []int, list []int) {
	t.Helper()
	if got := impl.SumsBelow(up, list); len(got) != 0 {
		t.Fatalf("SumsBelow(%v, %v) = %v", up, list, got)
	}
	if got := impl.UndoSums(up, list); len(got) != 0 {
		t.Fatalf("UndoSums(%v, %v) = %v", up, list, got)
	}
}

func TestSumsOfListsThatAreNoValues(t *testing.T) {
	for _, up := range goodOrders() {
		for _, list := range badValueLists(len(up)) {
			checkNoSums(t, up, list)
		}
	}
}

func TestLineSumsAndFallsBelow(t *testing.T) {
	cases := []struct{ up, lines, falls []int }{
		{nil, []int{1, 1, 1, 1, 1}, []int{1, 1, 1, 1, 1}},
		{[]int{}, []int{1, 1, 1, 1, 1}, []int{1, 1, 1, 1, 1}},
		{[]int{0}, []int{0, 1, 2, 3, 4}, []int{0, 1, 2, 3, 4}},
		{[]int{0, 0}, []int{0, 1, 4, 9, 16}, []int{0, 1, 4, 9, 16}},
		{[]int{2, 0}, []int{0, 1, 3, 6, 10}, []int{0, 0, 1, 3, 6}},
		{[]int{0, 1}, []int{0, 1, 3, 6, 10}, []int{0, 0, 1, 3, 6}},
		{[]int{6, 4, 0}, []int{0, 1, 4, 10, 20}, []int{0, 0, 0, 1, 4}},
		{[]int{6, 0, 0}, []int{0, 1, 5, 14, 30}, []int{0, 0, 1, 5, 14}},
		{[]int{4, 4, 0}, []int{0, 1, 5, 14, 30}, []int{0, 0, 1, 5, 14}},
		{[]int{2, 0, 8, 0}, []int{0, 1, 9, 36, 100}, []int{0, 0, 1, 9, 36}},
		{[]int{2, 0, 10, 0}, []int{0, 1, 8, 31, 85}, []int{0, 0, 1, 8, 31}},
		{[]int{14, 8, 8, 0}, []int{0, 1, 6, 20, 50}, []int{0, 0, 0, 1, 6}},
		{[]int{30, 16, 16, 16, 0}, []int{0, 1, 10, 46, 146}, []int{0, 0, 0, 1, 10}},
		// Chains of as many items as steps, of one more, and of two more.
		{[]int{14, 12, 8, 0}, []int{0, 1, 5, 15, 35}, []int{0, 0, 0, 0, 1}},
		{[]int{0, 1, 3, 7, 15}, []int{0, 1, 6, 21, 56}, []int{0, 0, 0, 0, 0}},
		{[]int{62, 60, 56, 48, 32, 0}, []int{0, 1, 7, 28, 84}, []int{0, 0, 0, 0, 0}},
		{[]int{0, 1, 3, 7, 15, 31}, []int{0, 1, 7, 28, 84}, []int{0, 0, 0, 0, 0}},
		{make([]int, 6), []int{0, 1, 64, 729, 4096}, []int{0, 1, 64, 729, 4096}},
	}
	for _, c := range cases {
		if got := impl.LineSums(c.up); !same(got, c.lines) {
			t.Errorf("LineSums(%v) = %v, not %v", c.up, got, c.lines)
		}
		if got := impl.FallsBelow(c.up); !same(got, c.falls) {
			t.Errorf("FallsBelow(%v) = %v, not %v", c.up, got, c.falls)
		}
	}
}

func TestLineSumsAndFallsBelowByTheirWords(t *testing.T) {
	for _, up := range goodOrders() {
		above := relationOf(up)
		if got, want := impl.LineSums(up), above.numberings(true); !same(got, want) {
			t.Fatalf("LineSums(%v) = %v, not %v", up, got, want)
		}
		if got, want := impl.FallsBelow(up), above.numberings(false); !same(got, want) {
			t.Fatalf("FallsBelow(%v) = %v, not %v", up, got, want)
		}
	}
}

// Promise 26.
func TestIdealsAreCountedByHalves(t *testing.T) {
	for _, up := range shapedOrders() {
		want := len(impl.IdealsOf(up))
		counts := []int{impl.CountIdeals(up), len(impl.ApartsOf(up)), impl.CountIdeals(impl.DualOf(up)), impl.LineSums(up)[2]}
		if !same(counts, slices.Repeat([]int{want}, 4)) {
			t.Fatalf("%v has %d of IdealsOf, but %v of CountIdeals, ApartsOf, turned round, and two steps of LineSums", up, want, counts)
		}
	}
}

// Promises 36 and 37.
func TestSignsAreSumsOverChains(t *testing.T) {
	for _, up := range shapedOrders() {
		dual := impl.DualOf(up)
		for a := range up {
			for b := range up {
				sign, byChains := impl.SignOf(up, a, b), impl.SignByChains(up, a, b)
				turned, turnedByChains := impl.SignOf(dual, b, a), impl.SignByChains(dual, b, a)
				if sign != byChains || sign != turned || byChains != turnedByChains {
					t.Fatalf("SignOf, SignByChains(%v, %d, %d) = %d, %d, and %d, %d turned round", up, a, b, sign, byChains, turned, turnedByChains)
				}
			}
		}
	}
}

// Promise 38.
func TestSumsAreUndone(t *testing.T) {
	undone, beyond := 0, 0
	for _, up := range goodOrders() {
		for _, values := range valueLists(len(up)) {
			sums := impl.SumsBelow(up, values)
			want := values
			if tooGreat(sums) {
				want = nil
				beyond++
			} else {
				undone++
			}
			if got := impl.UndoSums(up, sums); len(sums) != len(up) || !same(got, want) {
				t.Fatalf("SumsBelow(%v, %v) = %v, and UndoSums of them %v", up, values, sums, got)
			}
		}
	}
	if undone == 0 || beyond == 0 {
		t.Errorf("%d sums were undone, and %d too great", undone, beyond)
	}
}

// Promise 39.
func TestWhatIsUndoneSumsUpAgain(t *testing.T) {
	summed, beyond := 0, 0
	for _, up := range goodOrders() {
		for _, sums := range valueLists(len(up)) {
			values := impl.UndoSums(up, sums)
			want := sums
			if tooGreat(values) {
				want = nil
				beyond++
			} else {
				summed++
			}
			if got := impl.SumsBelow(up, values); len(values) != len(up) || !same(got, want) {
				t.Fatalf("UndoSums(%v, %v) = %v, and SumsBelow of them %v", up, sums, values, got)
			}
		}
	}
	if summed == 0 || beyond == 0 {
		t.Errorf("%d values were summed again, and %d too great", summed, beyond)
	}
}

// Promise 40.
func TestMoreNumbersHaveMoreWays(t *testing.T) {
	for _, up := range shapedOrders() {
		lines := impl.LineSums(up)
		if len(lines) != 5 || lines[1] != 1 || lines[2] != impl.CountIdeals(up) || !slices.IsSorted(lines) {
			t.Fatalf("LineSums(%v) = %v, CountIdeals = %d", up, lines, impl.CountIdeals(up))
		}
		if turned := impl.LineSums(impl.DualOf(up)); !same(turned, lines) {
			t.Fatalf("LineSums(%v) = %v, and %v turned round", up, lines, turned)
		}
	}
}

// Promise 41.
func TestAChainNeedsANumberEach(t *testing.T) {
	for _, up := range shapedOrders() {
		falls, lines, longest := impl.FallsBelow(up), impl.LineSums(up), impl.LongestChain(up)
		if turned := impl.FallsBelow(impl.DualOf(up)); len(falls) != 5 || !same(turned, falls) {
			t.Fatalf("FallsBelow(%v) = %v, and %v turned round", up, falls, turned)
		}
		for k, ways := range falls {
			if k < longest && ways != 0 || k >= longest && ways < 1 || ways > lines[k] {
				t.Fatalf("FallsBelow(%v) = %v, LineSums = %v, LongestChain = %d", up, falls, lines, longest)
			}
		}
	}
}

// Both are the same just where no item is above another one, in two numbers or more.
func TestLineSumsAreMoreWhereItemsAreAbove(t *testing.T) {
	for _, up := range shapedOrders() {
		falls, lines := impl.FallsBelow(up), impl.LineSums(up)
		for k := 1; k < len(lines); k++ {
			if isMore := lines[k] > falls[k]; isMore != (impl.CountPairs(up) > 0) {
				t.Fatalf("LineSums(%v) = %v, FallsBelow = %v", up, lines, falls)
			}
		}
	}
}

// signLists are the functions of the chapter whose result is a list that tells of an order alone.
func signLists() map[string]func([]int) []int {
	return map[string]func([]int) []int{
		"LineSums":   impl.LineSums,
		"FallsBelow": impl.FallsBelow,
	}
}

// sumLists are the functions of the chapter whose result is a list that tells of an order and a list.
func sumLists() map[string]func([]int, []int) []int {
	return map[string]func([]int, []int) []int{
		"SumsBelow": impl.SumsBelow,
		"UndoSums":  impl.UndoSums,
	}
}

func TestBadOrdersHaveFixedResultsOfSigns(t *testing.T) {
	for _, up := range badOrders() {
		for a := range 7 {
			for b := range 7 {
				checkNoSigns(t, up, a, b)
			}
			for _, bad := range badItems(len(up)) {
				checkNoSigns(t, up, a, bad)
				checkNoSigns(t, up, bad, a)
			}
		}
		for _, list := range slices.Concat(valueLists(len(up)), badValueLists(len(up)), [][]int{nil, {0}}) {
			checkNoSums(t, up, list)
		}
		for name, f := range signLists() {
			if got := f(up); len(got) != 0 {
				t.Errorf("%s(%v) = %v", name, up, got)
			}
		}
	}
}

// callSigns calls each function of the chapter.
func callSigns(up []int, list []int) {
	for _, a := range []int{0, 1, 5, 6, -1} {
		for _, b := range []int{0, 1, 5, 6, -1} {
			impl.SignOf(up, a, b)
			impl.SignByChains(up, a, b)
		}
	}
	impl.SumsBelow(up, list)
	impl.UndoSums(up, list)
	impl.LineSums(up)
	impl.FallsBelow(up)
}

func TestListsAreNotWrittenIntoBySigns(t *testing.T) {
	for _, up := range append(goodOrders(), badOrders()...) {
		for _, values := range append(valueLists(len(up))[:8], make([]int, len(up)+1), slices.Repeat([]int{1001}, len(up))) {
			order, list := roomy(up), roomy(values)
			callSigns(order, list)
			if !roomIsKept(order, up) || !roomIsKept(list, values) {
				t.Fatalf("%v and %v are %v and %v after the calls", up, values, order, list)
			}
		}
	}
}

func TestListsOfSignsShareNoMemory(t *testing.T) {
	for _, up := range goodOrders() {
		for name, f := range signLists() {
			checkSharesNoMemory(t, name, f, up)
		}
		for name, f := range sumLists() {
			for _, values := range valueLists(len(up)) {
				ofOrder := func(list []int) []int { return f(list, values) }
				checkSharesNoMemory(t, name+" of an order", ofOrder, up)
				ofValues := func(list []int) []int { return f(up, list) }
				checkSharesNoMemory(t, name+" of values", ofValues, values)
			}
		}
	}
}
