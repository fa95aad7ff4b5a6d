package tests

import (
	"iter"
	"math"
	"slices"
	"testing"

	"loop.example/ordersthatbranch/impl"
)

// relation tells of items whether the second one is above the first one. It is
// kept apart from the program's sets of bits, so that both do not err alike.
type relation [][]bool

func newRelation(n int) relation {
	r := make(relation, n)
	for i := range r {
		r[i] = make([]bool, n)
	}
	return r
}

// relationOf returns the relation that a list of sets tells.
func relationOf(up []int) relation {
	r := newRelation(len(up))
	for a := range up {
		for b := range up {
			r[a][b] = up[a]/power(b)%2 == 1
		}
	}
	return r
}

func power(n int) int {
	p := 1
	for range n {
		p *= 2
	}
	return p
}

// sets returns the list of sets of a relation.
func (r relation) sets() []int {
	up := make([]int, len(r))
	for a := range r {
		for b := range r {
			if r[a][b] {
				up[a] += power(b)
			}
		}
	}
	return up
}

// isOrder reports whether the relation is an order, by the document's words.
func (r relation) isOrder() bool {
	for a := range r {
		if r[a][a] {
			return false
		}
		for b := range r {
			for c := range r {
				if r[a][b] && r[b][c] && !r[a][c] {
					return false
				}
			}
		}
	}
	return true
}

// reaches reports whether steps of the relation, at least one, lead from a to b.
func (r relation) reaches(a int, b int) bool {
	seen := make([]bool, len(r))
	work := []int{a}
	for len(work) > 0 {
		at := work[0]
		work = work[1:]
		for next := range r {
			if r[at][next] && !seen[next] {
				seen[next] = true
				work = append(work, next)
			}
		}
	}
	return seen[b]
}

// following returns the relation of all that steps lead to.
func (r relation) following() relation {
	f := newRelation(len(r))
	for a := range r {
		for b := range r {
			f[a][b] = r.reaches(a, b)
		}
	}
	return f
}

// lists ranges over all lists of n numbers from low up to high.
func lists(n int, low int, high int) iter.Seq[[]int] {
	return func(yield func([]int) bool) {
		list := slices.Repeat([]int{low}, n)
		for {
			if !yield(slices.Clone(list)) {
				return
			}
			at := n - 1
			for at >= 0 && list[at] == high {
				list[at] = low
				at--
			}
			if at < 0 {
				return
			}
			list[at]++
		}
	}
}

// ordersOf returns all orders of n items, by the document's words.
func ordersOf(n int) [][]int {
	var all [][]int
	for up := range lists(n, 0, power(n)-1) {
		if relationOf(up).isOrder() {
			all = append(all, up)
		}
	}
	return all
}

// namedOrders are orders that stand for the shapes that the document speaks of.
func namedOrders() [][]int {
	return [][]int{
		{},
		{0},
		{6, 4, 0},
		{0, 0},
		{6, 0, 0},
		{2, 0, 10, 0},
		{14, 8, 8, 0},
		{2, 0, 8, 0},
		{30, 16, 16, 16, 0},
		{0, 1, 3, 7, 15},
		{62, 60, 56, 48, 32, 0},
		{0, 1, 3, 7, 15, 31},
		{0, 0, 0, 0, 0, 0},
		{56, 56, 56, 0, 0, 0},
		{48, 40, 24, 0, 0, 0},
		{0, 57, 59, 32, 40, 0},
		{32, 41, 32, 32, 47, 0},
	}
}

// broadOrders returns as many orders of six items, by a fixed short rule.
func broadOrders(many int) [][]int {
	var all [][]int
	state := uint32(1)
	next := func(below uint32) int {
		state = state*1664525 + 1013904223
		return int(state >> 16 % below)
	}
	for range many {
		names := []int{0, 1, 2, 3, 4, 5}
		for i := 5; i > 0; i-- {
			j := next(uint32(i + 1))
			names[i], names[j] = names[j], names[i]
		}
		r := newRelation(6)
		share := 1 + next(6)
		for i := range 6 {
			for j := range i {
				r[names[j]][names[i]] = next(8) < share
			}
		}
		all = append(all, r.following().sets())
	}
	return all
}

// goodOrders returns all orders of up to four items, and others of more.
func goodOrders() [][]int {
	all := namedOrders()
	for n := range 5 {
		all = append(all, ordersOf(n)...)
	}
	return append(all, broadOrders(500)...)
}

// badOrders are lists that are no orders.
func badOrders() [][]int {
	return [][]int{
		{1},
		{2},
		{-1},
		{0, -1},
		{0, 4},
		{2, 2},
		{2, 1},
		{2, 4, 0},
		{0, 1, 2},
		{3, 0},
		{6, 4, 1},
		{2, 4, 8, 0},
		{14, 12, 0, 2},
		{30, 28, 24, 16, 1},
		{64, 0, 0, 0, 0, 0},
		{0, 0, 0, 0, 0, 64},
		{62, 60, 56, 48, 0, 32},
		{62, 60, 56, 48, 32, 1},
		{0, 0, 0, 0, 0, 0, 0},
		{126, 124, 120, 112, 96, 64, 0},
		make([]int, 65),
		{math.MaxInt},
		{math.MinInt},
		{0, math.MaxInt},
		{0, math.MinInt},
		{1 << 32, 0},
		{0, 0, 0, 0, 0, math.MinInt},
	}
}

// badSets are numbers that are no sets of n items.
func badSets(n int) []int {
	return []int{-1, -2, power(n), power(n) + 1, 64, 128, 1 << 32, math.MaxInt, math.MinInt}
}

// same reports whether two lists have the same numbers, nil being as empty.
func same(a []int, b []int) bool {
	return slices.Equal(a, b)
}

// sameRows reports whether two lists of rows have the same numbers.
func sameRows(a [][]int, b [][]int) bool {
	return slices.EqualFunc(a, b, same)
}

// cloneRows returns rows that share nothing with the ones given.
func cloneRows(rows [][]int) [][]int {
	clone := make([][]int, len(rows))
	for i, row := range rows {
		clone[i] = slices.Clone(row)
	}
	return clone
}

// roomy returns a list with spare capacity that is filled with a mark.
func roomy(list []int) []int {
	room := append(slices.Clone(list), mark, mark, mark)
	return room[:len(list)]
}

// roomIsKept reports whether a list of roomy, and all behind it, is as it was.
func roomIsKept(list []int, was []int) bool {
	room := list[:cap(list)]
	end := len(list) + 3
	return same(room[:len(list)], was) && same(room[len(list):end], []int{mark, mark, mark})
}

const mark = 987654321

// spoil writes over a result, its spare capacity too.
func spoil(list []int) {
	room := list[:cap(list)]
	for i := range room {
		room[i] = mark
	}
}

// checkSharesNoMemory writes over a result, and over an argument behind a call:
// if they shared memory, or the program kept some, the other one would show it.
func checkSharesNoMemory(t *testing.T, name string, f func([]int) []int, up []int) {
	t.Helper()
	want := slices.Clone(f(slices.Clone(up)))
	list := slices.Clone(up)
	got := f(list)
	spoil(list)
	if !same(got, want) {
		t.Fatalf("%s(%v) changes with its argument", name, up)
	}
	copy(list, up)
	spoil(got)
	if !same(list, up) || !same(f(list), want) {
		t.Fatalf("the argument %v of %s, or a later result for it, changes with the result", up, name)
	}
}

// checkRowsShareNoMemory does the same where the result is rows, and with each row against the others.
func checkRowsShareNoMemory(t *testing.T, name string, f func([]int) [][]int, up []int) {
	t.Helper()
	want := cloneRows(f(slices.Clone(up)))
	list := slices.Clone(up)
	got := f(list)
	spoil(list)
	if !sameRows(got, want) {
		t.Fatalf("%s(%v) changes with its argument", name, up)
	}
	copy(list, up)
	for i := range got {
		spoil(got[i])
		if !same(list, up) || !sameRows(f(list), want) {
			t.Fatalf("the argument %v of %s, or a later result for it, changes with the row at %d", up, name, i)
		}
		copy(got[i], want[i])
		if !sameRows(got, want) {
			t.Fatalf("rows of %s(%v) change with the one at %d", name, up, i)
		}
	}
}

// orderOf returns OrderOf n and pairs that are known to make an order.
func orderOf(n int, pairs ...[]int) []int {
	up, ok := impl.OrderOf(n, pairs)
	if !ok {
		return []int{mark}
	}
	return up
}
