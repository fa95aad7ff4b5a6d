package impl

import (
	"iter"
	"math/bits"
)

// MaxItems is the largest number of items.
const MaxItems = 6

// items is a set of items, as the sum of 2 to each.
type items int

// isSetOf reports whether a number is a set of the items from 0 up to less than n.
func isSetOf(n int, s int) bool {
	return s >= 0 && s < 1<<n
}

// isItemOf reports whether a number is one of the items from 0 up to less than n.
func isItemOf(n int, item int) bool {
	return item >= 0 && item < n
}

// has reports whether the set has the item.
func (s items) has(item int) bool {
	return s>>item&1 == 1
}

// with returns the set with the item.
func (s items) with(item int) items {
	return s | 1<<item
}

// without returns the set without the item.
func (s items) without(item int) items {
	return s &^ (1 << item)
}

// within reports whether the other set has all items of the set.
func (s items) within(other items) bool {
	return s&^other == 0
}

// size returns how many items the set has.
func (s items) size() int {
	return bits.OnesCount(uint(s))
}

// each ranges over the items of the set, from 0 up.
func (s items) each() iter.Seq[int] {
	return func(yield func(int) bool) {
		for item := range MaxItems {
			if s.has(item) && !yield(item) {
				return
			}
		}
	}
}

// order tells for each item the set of those above it.
type order []items

// readOrder returns what a list tells as an order, and whether it is one.
func readOrder(up []int) (order, bool) {
	n := len(up)
	if n > MaxItems {
		return nil, false
	}
	o := make(order, n)
	for item, above := range up {
		if !isSetOf(n, above) {
			return nil, false
		}
		o[item] = items(above)
	}
	if !o.isOrder() {
		return nil, false
	}
	return o, true
}

// numbersOf returns sets as numbers.
func numbersOf(sets []items) []int {
	numbers := make([]int, len(sets))
	for i, s := range sets {
		numbers[i] = int(s)
	}
	return numbers
}

// all returns the set of all items.
func (o order) all() items {
	return 1<<len(o) - 1
}

// pairs ranges over the pairs of an item and one above it, by the first and then by the second one.
func (o order) pairs() iter.Seq2[int, int] {
	return func(yield func(int, int) bool) {
		for low, above := range o {
			for high := range above.each() {
				if !yield(low, high) {
					return
				}
			}
		}
	}
}

// isOrder reports whether no item is above itself, and what is above one above is above.
func (o order) isOrder() bool {
	for low, high := range o.pairs() {
		if low == high || !o[high].within(o[low]) {
			return false
		}
	}
	return true
}

// addWhatFollows puts above each item what is above those above it.
func (o order) addWhatFollows() {
	// With the item that is gone through outermost, one round is enough: each
	// further item joins ways that go through the ones ahead of it already.
	for through := range o {
		for low := range o {
			if o[low].has(through) {
				o[low] |= o[through]
			}
		}
	}
}

// dual returns the order turned round.
func (o order) dual() order {
	down := make(order, len(o))
	for low, high := range o.pairs() {
		down[high] = down[high].with(low)
	}
	return down
}

// isNext reports whether no item is above the low and below the high one.
func (o order) isNext(low int, high int) bool {
	for between := range o[low].each() {
		if o[between].has(high) {
			return false
		}
	}
	return true
}

// heights returns for each item the most items below it that are one above the other.
func (o order) heights() []int {
	heights := make([]int, len(o))
	// Pairs come by the numbers of the items, not from the lowest ones up; a
	// round settles one more step of each chain, and no chain has more steps.
	for range o {
		for low, high := range o.pairs() {
			heights[high] = max(heights[high], heights[low]+1)
		}
	}
	return heights
}

// tops returns the items of the set above which there is none of it.
func (o order) tops(s items) items {
	var tops items
	for item := range s.each() {
		if o[item]&s == 0 {
			tops = tops.with(item)
		}
	}
	return tops
}

// isPairOf reports whether the list is two of the items from 0 up to less than n.
func isPairOf(n int, pair []int) bool {
	return len(pair) == 2 && isItemOf(n, pair[0]) && isItemOf(n, pair[1])
}

// ValidOrder reports whether sets are an order.
func ValidOrder(up []int) bool {
	_, ok := readOrder(up)
	return ok
}

// OrderOf returns the order of pairs.
func OrderOf(n int, pairs [][]int) ([]int, bool) {
	if n < 0 || n > MaxItems {
		return nil, false
	}
	o := make(order, n)
	for _, pair := range pairs {
		if !isPairOf(n, pair) {
			return nil, false
		}
		o[pair[0]] = o[pair[0]].with(pair[1])
	}
	o.addWhatFollows()
	if !o.isOrder() {
		return nil, false
	}
	return numbersOf(o), true
}

// DualOf returns an order turned round.
func DualOf(up []int) []int {
	o, ok := readOrder(up)
	if !ok {
		return nil
	}
	return numbersOf(o.dual())
}

// CoversOf returns the pairs of items next above each other.
func CoversOf(up []int) [][]int {
	o, ok := readOrder(up)
	if !ok {
		return nil
	}
	covers := [][]int{}
	for low, high := range o.pairs() {
		if o.isNext(low, high) {
			covers = append(covers, []int{low, high})
		}
	}
	return covers
}

// HeightsOf returns the height of each item.
func HeightsOf(up []int) []int {
	o, ok := readOrder(up)
	if !ok {
		return nil
	}
	return o.heights()
}

// TopsOf returns the items of a set above which there is none of it.
func TopsOf(up []int, s int) int {
	o, ok := readOrder(up)
	if !ok || !isSetOf(len(o), s) {
		return -1
	}
	return int(o.tops(items(s)))
}

// CountPairs returns how many pairs of an order there are.
func CountPairs(up []int) int {
	o, ok := readOrder(up)
	if !ok {
		return -1
	}
	count := 0
	for _, above := range o {
		count += above.size()
	}
	return count
}
