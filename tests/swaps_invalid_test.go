package tests

import (
	"math"
	"slices"
	"testing"

	"loop.example/tradecircles/impl"
)

// wantNoSwaps has all functions that take a giving fail with zero values.
func wantNoSwaps(t *testing.T, w [][]int, g []int) {
	t.Helper()
	if impl.SwapStill(w, g) {
		t.Errorf("SwapStill(%v, %v) holds", w, g)
	}
	if pairs, ok := impl.SwapAll(w, g); ok || len(pairs) != 0 {
		t.Errorf("SwapAll(%v, %v) = %v, %t", w, g, pairs, ok)
	}
	for i := range impl.PeopleMax + 1 {
		for k := range impl.PeopleMax + 1 {
			wantNoSwap(t, w, g, i, k)
		}
	}
}

func wantNoSwap(t *testing.T, w [][]int, g []int, i int, k int) {
	t.Helper()
	if impl.SwapMay(w, g, i, k) {
		t.Errorf("SwapMay(%v, %v, %d, %d) holds", w, g, i, k)
	}
	if h, ok := impl.SwapDo(w, g, i, k); ok || len(h) != 0 {
		t.Errorf("SwapDo(%v, %v, %d, %d) = %v, %t", w, g, i, k, h, ok)
	}
}

func wantNoEnds(t *testing.T, w [][]int) {
	t.Helper()
	if ends, ok := impl.SwapEnds(w); ok || len(ends) != 0 {
		t.Errorf("SwapEnds(%v) = %v, %t", w, ends, ok)
	}
	if swaps, ok := impl.SwapLong(w); ok || swaps != 0 {
		t.Errorf("SwapLong(%v) = %d, %t", w, swaps, ok)
	}
	if count, ok := impl.SwapStills(w); ok || count != 0 {
		t.Errorf("SwapStills(%v) = %d, %t", w, count, ok)
	}
}

func TestSwapsOfNoWishes(t *testing.T) {
	tables := noWishes()
	for n := 2; n <= impl.PeopleMax; n++ {
		tables = append(tables, spoiledWishes(likeOwnLeast(n))...)
	}
	for _, w := range tables {
		wantNoEnds(t, w)
		for n := 2; n <= impl.PeopleMax; n++ {
			wantNoSwaps(t, w, countUp(n))
		}
		for _, g := range [][]int{nil, {0}, {1, 0}, {2, 0, 1}, {0, 1, 2, 3, 4, 5}} {
			wantNoSwaps(t, w, g)
		}
	}
}

// TestSwapsOfNoGivings spoils a giving by which all swaps are welcome, and one by which none are.
func TestSwapsOfNoGivings(t *testing.T) {
	for n := 2; n <= impl.PeopleMax; n++ {
		for _, w := range [][][]int{likeOwnLeast(n), allAlike(countUp(n))} {
			for _, g := range noOrders(countUp(n)) {
				wantNoSwaps(t, w, g)
			}
			for other := 2; other <= impl.PeopleMax; other++ {
				if other != n {
					wantNoSwaps(t, w, countUp(other))
				}
			}
			wantNoSwaps(t, w, []int{0})
			wantNoSwaps(t, w, []int{0, 1, 2, 3, 4, 5})
		}
	}
}

func TestSwapsOfOtherPeople(t *testing.T) {
	for n := 2; n <= impl.PeopleMax; n++ {
		for _, w := range [][][]int{likeOwnLeast(n), allAlike(countUp(n))} {
			for _, x := range slices.Concat([]int{n, n + 1}, farNumbers) {
				for i := range n {
					wantNoSwap(t, w, countUp(n), x, i)
					wantNoSwap(t, w, countUp(n), i, x)
				}
				wantNoSwap(t, w, countUp(n), x, x)
				wantNoSwap(t, w, countUp(n), x, x+1)
			}
		}
	}
}

// TestSwapWithOneself tries all givings: a person does not exchange anything with this one.
func TestSwapWithOneself(t *testing.T) {
	for _, w := range sampleWishes(3) {
		for _, g := range ordersOf[len(w)] {
			for i := range w {
				wantNoSwap(t, w, g, i, i)
			}
		}
	}
}

func callAllSwaps(w [][]int, g []int, i int, k int) {
	impl.SwapMay(w, g, i, k)
	impl.SwapAll(w, g)
	impl.SwapDo(w, g, i, k)
	impl.SwapStill(w, g)
	impl.SwapEnds(w)
	impl.SwapLong(w)
	impl.SwapStills(w)
}

// TestSwapArgumentsStay also has any panic fail, for all kinds of arguments, valid or not.
func TestSwapArgumentsStay(t *testing.T) {
	lists := [][]int{nil, {0}, {0, 1}, {1, 0}, {0, 0}, {2, 1, 0}, {3, 0, 1, 2}, {0, 1, 2, 3, 4}, {4, 0, 3, 1, 2}, {0, 1, 2, 3, 4, 5}, {-1, 0}, {math.MaxInt, math.MinInt}}
	tables := slices.Concat(noWishes(), everyWishes(2), someWishes(3, 1), someWishes(4, 1), [][][]int{fivePairs, fiveLong, likeOwnLeast(5)})
	for _, rows := range tables {
		for _, numbers := range lists {
			w, g := roomyRows(rows), roomy(numbers)
			rowsBefore, listBefore := rowsWithRoom(w), withRoom(g)
			for _, pair := range [][2]int{{0, 1}, {1, 0}, {4, 4}, {3, 2}, {-1, 5}, {math.MinInt, math.MaxInt}} {
				callAllSwaps(w, g, pair[0], pair[1])
			}
			if !sameRows(rowsBefore, rowsWithRoom(w)) || !slices.Equal(listBefore, withRoom(g)) {
				t.Fatalf("the arguments %v, %v have become %v, %v", rows, numbers, w, g)
			}
		}
	}
}

// TestSwapRowsAreApart overwrites one row of each result after the other, and what stands behind its end.
func TestSwapRowsAreApart(t *testing.T) {
	for _, rows := range [][][]int{{{1, 0}, {0, 1}}, threeSwap, threeEnds, fourPairs, fivePairs, fiveLong} {
		w, g := roomyRows(rows), roomy(countUp(len(rows)))
		rowsBefore, listBefore := rowsWithRoom(w), withRoom(g)
		for _, got := range [][][]int{swapsOf(t, w, g), endsOf(t, w), {behindSwap(t, w, g, 0, 1)}} {
			for k := range got {
				later := copyRows(got[k+1:])
				overwrite(got[k])
				if !sameRows(later, got[k+1:]) {
					t.Errorf("rows of a result for %v share memory: %v", rows, got)
				}
			}
		}
		if !sameRows(rowsWithRoom(w), rowsBefore) || !slices.Equal(withRoom(g), listBefore) {
			t.Errorf("results for %v share memory with the arguments", rows)
		}
	}
}

// TestSwapResultsAreApart overwrites second results, and then the arguments.
func TestSwapResultsAreApart(t *testing.T) {
	for _, rows := range [][][]int{{{1, 0}, {0, 1}}, threeSwap, threeEnds, fourPairs, fivePairs, fiveLong} {
		own := countUp(len(rows))
		w, g := roomyRows(rows), roomy(own)
		pairs, ends, behind := swapsOf(t, w, g), endsOf(t, w), behindSwap(t, w, g, 0, 1)
		overwriteRows(swapsOf(t, w, g))
		overwriteRows(endsOf(t, w))
		overwrite(behindSwap(t, w, g, 0, 1))
		overwriteRows(w)
		overwrite(g)
		wanted, _ := endsByTelling(rows)
		swapped := slices.Clone(own)
		swapped[0], swapped[1] = 1, 0
		if !sameRows(pairs, welcomePairs(rows, own)) || !sameRows(ends, wanted) || !slices.Equal(behind, swapped) {
			t.Errorf("results for %v share memory: %v, %v, %v", rows, pairs, ends, behind)
		}
	}
}
