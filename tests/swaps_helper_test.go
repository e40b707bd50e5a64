package tests

import (
	"slices"
	"testing"

	"loop.example/tradecircles/impl"
)

// exchanged lists the people who have another house in the second one of two givings.
func exchanged(g []int, h []int) []int {
	var people []int
	for i := range g {
		if g[i] != h[i] {
			people = append(people, i)
		}
	}
	return people
}

// leadsTo reports whether a welcome swap leads from one giving to another one: just two people have another house by it, and both like it better.
func leadsTo(w [][]int, g []int, h []int) bool {
	people := exchanged(g, h)
	if len(people) != 2 {
		return false
	}
	for _, i := range people {
		if placeOf(w, i, h[i]) >= placeOf(w, i, g[i]) {
			return false
		}
	}
	return true
}

// welcomePairs tries all givings to which a swap may lead.
func welcomePairs(w [][]int, g []int) [][]int {
	var pairs [][]int
	for _, h := range ordersOf[len(w)] {
		if leadsTo(w, g, h) {
			pairs = append(pairs, exchanged(g, h))
		}
	}
	slices.SortFunc(pairs, slices.Compare)
	return pairs
}

func stillsByTelling(w [][]int) [][]int {
	return slices.DeleteFunc(slices.Clone(ordersOf[len(w)]), func(g []int) bool { return len(welcomePairs(w, g)) > 0 })
}

// longestByTelling tells, for each place in the list of all givings, how many welcome swaps lead there from the own houses at most, or -1 if none do. It goes over all of them until nothing is new.
func longestByTelling(w [][]int) []int {
	all := ordersOf[len(w)]
	longest := slices.Repeat([]int{-1}, len(all))
	longest[0] = 0
	for again := true; again; {
		again = false
		for i, g := range all {
			for k, h := range all {
				if longest[i] >= longest[k] && longest[i] != -1 && leadsTo(w, g, h) {
					longest[k] = longest[i] + 1
					again = true
				}
			}
		}
	}
	return longest
}

// endsByTelling returns the still givings to which welcome swaps lead, in the order of lists, and the greatest number of these.
func endsByTelling(w [][]int) ([][]int, int) {
	longest := longestByTelling(w)
	var ends [][]int
	for i, g := range ordersOf[len(w)] {
		if longest[i] != -1 && len(welcomePairs(w, g)) == 0 {
			ends = append(ends, g)
		}
	}
	return ends, slices.Max(longest)
}

// pairsOf returns all pairs of people, the lesser one first.
func pairsOf(n int) [][]int {
	return slices.DeleteFunc(listsOver(2, 0, n-1), func(pair []int) bool { return pair[0] >= pair[1] })
}

// swapsOf is for arguments of which it is known that they are wishes and a giving.
func swapsOf(t *testing.T, w [][]int, g []int) [][]int {
	t.Helper()
	pairs, ok := impl.SwapAll(w, g)
	if !ok {
		t.Fatalf("SwapAll(%v, %v) fails", w, g)
	}
	return pairs
}

func endsOf(t *testing.T, w [][]int) [][]int {
	t.Helper()
	ends, ok := impl.SwapEnds(w)
	if !ok {
		t.Fatalf("SwapEnds(%v) fails", w)
	}
	return ends
}

func behindSwap(t *testing.T, w [][]int, g []int, i int, k int) []int {
	t.Helper()
	h, ok := impl.SwapDo(w, g, i, k)
	if !ok || len(h) != len(g) {
		t.Fatalf("SwapDo(%v, %v, %d, %d) = %v, %t", w, g, i, k, h, ok)
	}
	return h
}

// wantEnds has both questions about all welcome swaps from the beginning on answered as told.
func wantEnds(t *testing.T, w [][]int, ends [][]int, long int) {
	t.Helper()
	got, ok := impl.SwapEnds(w)
	if !ok || !sameRows(got, ends) {
		t.Errorf("SwapEnds(%v) = %v, %t, want %v", w, got, ok, ends)
	}
	swaps, ok := impl.SwapLong(w)
	wantNumber(t, "SwapLong", swaps, ok, long)
}

func wantStills(t *testing.T, w [][]int, want int) {
	t.Helper()
	count, ok := impl.SwapStills(w)
	wantNumber(t, "SwapStills", count, ok, want)
}
