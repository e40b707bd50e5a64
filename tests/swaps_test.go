package tests

import (
	"slices"
	"testing"

	"loop.example/tradecircles/impl"
)

var (
	// threeEnds leads to three still givings, and to two of them by way of others.
	threeEnds = [][]int{{1, 2, 0}, {0, 2, 1}, {0, 1, 2}}
	// Of the swaps told here, each one gives both people the house that comes next in their lists.
	fourLong      = [][]int{{2, 3, 1, 0}, {3, 2, 0, 1}, {0, 1, 3, 2}, {1, 0, 2, 3}}
	fourLongSwaps = [][]int{{0, 1}, {2, 3}, {0, 2}, {1, 3}, {0, 1}, {2, 3}}
	fiveLong      = [][]int{{4, 3, 2, 1, 0}, {2, 3, 4, 0, 1}, {3, 0, 4, 1, 2}, {0, 1, 4, 2, 3}, {1, 0, 3, 2, 4}}
	fiveLongSwaps = [][]int{{0, 1}, {0, 2}, {0, 3}, {3, 4}, {2, 3}, {1, 2}, {0, 1}, {1, 4}, {2, 4}, {3, 4}}
	// Two swaps that have nothing to do with each other.
	fivePairs = [][]int{{1, 0, 2, 3, 4}, {0, 1, 2, 3, 4}, {3, 2, 0, 1, 4}, {2, 3, 0, 1, 4}, {4, 0, 1, 2, 3}}
)

// TestSwapsOfTwo has all wishes of two people.
func TestSwapsOfTwo(t *testing.T) {
	for _, c := range []struct {
		w      [][]int
		keep   bool
		change bool
		end    []int
		long   int
		stills int
	}{
		{[][]int{{0, 1}, {0, 1}}, false, false, []int{0, 1}, 0, 2},
		{[][]int{{0, 1}, {1, 0}}, false, true, []int{0, 1}, 0, 1},
		{[][]int{{1, 0}, {0, 1}}, true, false, []int{1, 0}, 1, 1},
		{[][]int{{1, 0}, {1, 0}}, false, false, []int{0, 1}, 0, 2},
	} {
		wantSwap(t, c.w, []int{0, 1}, 0, 1, c.keep, []int{1, 0})
		wantSwap(t, c.w, []int{1, 0}, 0, 1, c.change, []int{0, 1})
		wantEnds(t, c.w, [][]int{c.end}, c.long)
		wantStills(t, c.w, c.stills)
	}
}

// wantSwap asks for two people in either order.
func wantSwap(t *testing.T, w [][]int, g []int, i int, k int, may bool, behind []int) {
	t.Helper()
	for _, pair := range [][2]int{{i, k}, {k, i}} {
		if got := impl.SwapMay(w, g, pair[0], pair[1]); got != may {
			t.Errorf("SwapMay(%v, %v, %d, %d) = %t", w, g, pair[0], pair[1], got)
		}
		h, ok := impl.SwapDo(w, g, pair[0], pair[1])
		wantList(t, "SwapDo", h, ok, behind)
	}
}

func TestSwapExamples(t *testing.T) {
	own := []int{0, 1, 2}
	for _, c := range []struct {
		w      [][]int
		g      []int
		i, k   int
		may    bool
		behind []int
	}{
		{threeSwap, own, 0, 1, true, []int{1, 0, 2}},
		// 2 alone likes it.
		{threeSwap, own, 0, 2, false, []int{2, 1, 0}},
		// Neither of them likes it.
		{threeSwap, own, 1, 2, false, []int{0, 2, 1}},
		{threeSwap, []int{0, 2, 1}, 1, 2, true, own},
		{threeSwap, []int{0, 2, 1}, 0, 2, true, []int{1, 2, 0}},
		{threeSwap, []int{0, 2, 1}, 0, 1, false, []int{2, 0, 1}},
		// What counts is what each one gets, and not what each one owns.
		{threeRing, []int{2, 0, 1}, 0, 1, true, []int{0, 2, 1}},
		{threeRing, []int{0, 2, 1}, 0, 2, true, []int{1, 2, 0}},
		{threeRing, []int{1, 2, 0}, 0, 2, false, []int{0, 2, 1}},
		{fourLong, []int{1, 0, 3, 2}, 0, 2, true, []int{3, 0, 1, 2}},
		{fiveLong, []int{3, 0, 1, 2, 4}, 3, 4, true, []int{3, 0, 1, 4, 2}},
		{fivePairs, []int{0, 1, 2, 3, 4}, 2, 3, true, []int{0, 1, 3, 2, 4}},
		{fivePairs, []int{0, 1, 2, 3, 4}, 0, 4, false, []int{4, 1, 2, 3, 0}},
		{fiveAlike, []int{4, 3, 2, 1, 0}, 1, 4, false, []int{4, 0, 2, 1, 3}},
		{fiveOwn, []int{4, 3, 2, 1, 0}, 0, 4, true, []int{0, 3, 2, 1, 4}},
		{fiveOwn, []int{0, 1, 2, 3, 4}, 0, 4, false, []int{4, 1, 2, 3, 0}},
	} {
		wantSwap(t, c.w, c.g, c.i, c.k, c.may, c.behind)
	}
}

func TestAllSwapsExamples(t *testing.T) {
	for _, c := range []struct {
		w     [][]int
		g     []int
		pairs [][]int
	}{
		{threeSwap, []int{0, 1, 2}, [][]int{{0, 1}}},
		{threeSwap, []int{0, 2, 1}, [][]int{{0, 2}, {1, 2}}},
		{threeSwap, []int{2, 0, 1}, [][]int{{0, 2}}},
		{threeSwap, []int{1, 0, 2}, nil},
		{threeSwap, []int{1, 2, 0}, nil},
		{threeSwap, []int{2, 1, 0}, nil},
		{threeRing, []int{0, 1, 2}, nil},
		{threeRing, []int{1, 0, 2}, [][]int{{1, 2}}},
		{threeRing, []int{2, 1, 0}, [][]int{{0, 1}}},
		{threeRing, []int{2, 0, 1}, [][]int{{0, 1}, {0, 2}, {1, 2}}},
		{likeOwnLeast(4), []int{0, 1, 2, 3}, pairsOf(4)},
		{likeOwnLeast(5), []int{0, 1, 2, 3, 4}, [][]int{{0, 1}, {0, 2}, {0, 3}, {0, 4}, {1, 2}, {1, 3}, {1, 4}, {2, 3}, {2, 4}, {3, 4}}},
		{fivePairs, []int{0, 1, 2, 3, 4}, [][]int{{0, 1}, {2, 3}}},
		{fivePairs, []int{1, 0, 2, 3, 4}, [][]int{{2, 3}}},
		{fivePairs, []int{1, 0, 3, 2, 4}, nil},
		{fiveAlike, []int{4, 3, 2, 1, 0}, nil},
		{fiveRing, []int{0, 1, 2, 3, 4}, nil},
	} {
		if pairs := swapsOf(t, c.w, c.g); !sameRows(pairs, c.pairs) {
			t.Errorf("SwapAll(%v, %v) = %v, want %v", c.w, c.g, pairs, c.pairs)
		}
		if got := impl.SwapStill(c.w, c.g); got != (len(c.pairs) == 0) {
			t.Errorf("SwapStill(%v, %v) = %t", c.w, c.g, got)
		}
	}
}

func TestSwapEndsExamples(t *testing.T) {
	for _, c := range []struct {
		w      [][]int
		ends   [][]int
		long   int
		stills int
	}{
		{threeSwap, [][]int{{1, 0, 2}}, 1, 3},
		// Nothing leads from the own houses to 1 2 0, which all like best.
		{threeRing, [][]int{{0, 1, 2}}, 0, 2},
		{threeEnds, [][]int{{1, 0, 2}, {1, 2, 0}, {2, 0, 1}}, 2, 3},
		{allAlike([]int{2, 0, 1}), [][]int{{0, 1, 2}}, 0, 6},
		{fiveAlike, [][]int{{0, 1, 2, 3, 4}}, 0, 120},
	} {
		wantEnds(t, c.w, c.ends, c.long)
		wantStills(t, c.w, c.stills)
	}
	wantEnds(t, fivePairs, [][]int{{1, 0, 3, 2, 4}}, 2)
	for _, w := range [][][]int{fiveRing, fiveOwn, fiveChain} {
		wantEnds(t, w, [][]int{{0, 1, 2, 3, 4}}, 0)
	}
}

// TestLongestSwaps follows swaps as many as there can be of four and of five people: in the end all have what they like best, and nobody has passed over a house.
func TestLongestSwaps(t *testing.T) {
	for _, c := range []struct {
		w     [][]int
		swaps [][]int
	}{
		{fourLong, fourLongSwaps},
		{fiveLong, fiveLongSwaps},
	} {
		g := countUp(len(c.w))
		for _, pair := range c.swaps {
			if !slices.ContainsFunc(swapsOf(t, c.w, g), func(x []int) bool { return slices.Equal(x, pair) }) {
				t.Errorf("SwapAll(%v, %v) is without %v", c.w, g, pair)
			}
			g = behindSwap(t, c.w, g, pair[0], pair[1])
		}
		for i, house := range g {
			if house != c.w[i][0] {
				t.Errorf("%d gets %d in the end, for %v", i, house, c.w)
			}
		}
		swaps, ok := impl.SwapLong(c.w)
		wantNumber(t, "SwapLong", swaps, ok, len(c.swaps))
		ends, ok := impl.SwapEnds(c.w)
		if !ok || !slices.ContainsFunc(ends, func(x []int) bool { return slices.Equal(x, g) }) {
			t.Errorf("SwapEnds(%v) = %v, %t is without %v", c.w, ends, ok, g)
		}
	}
}

// TestSwapsByTelling tries all givings and all pairs of people.
func TestSwapsByTelling(t *testing.T) {
	counts := map[int]bool{}
	for _, w := range sampleWishes(10) {
		for _, g := range ordersOf[len(w)] {
			wanted := welcomePairs(w, g)
			if pairs := swapsOf(t, w, g); !sameRows(pairs, wanted) {
				t.Errorf("SwapAll(%v, %v) = %v, want %v", w, g, pairs, wanted)
			}
			if got := impl.SwapStill(w, g); got != (len(wanted) == 0) {
				t.Errorf("SwapStill(%v, %v) = %t", w, g, got)
			}
			for _, pair := range pairsOf(len(w)) {
				i, k := pair[0], pair[1]
				h := slices.Clone(g)
				h[i], h[k] = g[k], g[i]
				wantSwap(t, w, g, i, k, leadsTo(w, g, h), h)
			}
			counts[len(wanted)] = true
		}
	}
	for count := range 5 {
		if !counts[count] {
			t.Errorf("no sample has a giving with %d welcome swaps", count)
		}
	}
}

func TestEndsByTelling(t *testing.T) {
	longs, counts, apart := map[int]bool{}, map[int]bool{}, 0
	samples := append(sampleWishes(30), fourPairs, fourLong, fiveLong, likeOwnLeast(4), likeOwnLeast(5))
	for _, w := range samples {
		ends, long := endsByTelling(w)
		stills := stillsByTelling(w)
		wantEnds(t, w, ends, long)
		wantStills(t, w, len(stills))
		longs[long] = true
		counts[len(ends)] = true
		if len(stills) > len(ends) {
			apart++
		}
	}
	for long := range 7 {
		if !longs[long] {
			t.Errorf("no sample has %d welcome swaps behind each other", long)
		}
	}
	for count := 1; count < 7; count++ {
		if !counts[count] {
			t.Errorf("no sample leads to %d still givings", count)
		}
	}
	wantBoth(t, "there are still givings to which nothing leads", apart, len(samples))
}

// TestSwapsAnswerAfresh asks for different wishes behind each other, and for the first ones again.
func TestSwapsAnswerAfresh(t *testing.T) {
	d := dice(60)
	samples := [][][]int{fiveLong, threeRing, fiveAlike, threeEnds, fourLong, {{1, 0}, {0, 1}}, fivePairs, fourPairs, threeSwap}
	for range 200 {
		w := samples[d.below(len(samples))]
		ends, long := endsByTelling(w)
		wantEnds(t, w, ends, long)
		wantStills(t, w, len(stillsByTelling(w)))
		if pairs := swapsOf(t, w, countUp(len(w))); !sameRows(pairs, welcomePairs(w, countUp(len(w)))) {
			t.Errorf("SwapAll(%v, own houses) = %v", w, pairs)
		}
	}
}
