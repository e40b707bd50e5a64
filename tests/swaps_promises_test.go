package tests

import (
	"slices"
	"testing"

	"loop.example/tradecircles/impl"
)

func TestPromise33(t *testing.T) {
	all, met := 0, 0
	for _, w := range sampleWishes(10) {
		for _, g := range ordersOf[len(w)] {
			for _, pair := range listsOver(2, 0, len(w)-1) {
				i, k := pair[0], pair[1]
				all++
				if !impl.SwapMay(w, g, i, k) {
					continue
				}
				met++
				if !impl.SwapMay(w, g, k, i) || !impl.HouseLikes(w, i, g[k], g[i]) || !impl.HouseLikes(w, k, g[i], g[k]) {
					t.Errorf("SwapMay(%v, %v, %d, %d) holds, but not with both exchanged, or one of both does not like it", w, g, i, k)
				}
				if h := behindSwap(t, w, g, i, k); impl.SwapMay(w, h, i, k) {
					t.Errorf("SwapMay(%v, %v, %d, %d) holds for both %v and this", w, h, i, k, g)
				}
			}
		}
	}
	wantBoth(t, "SwapMay holds", met, all)
}

func TestPromise34(t *testing.T) {
	all, none := 0, 0
	for _, w := range sampleWishes(10) {
		for _, g := range ordersOf[len(w)] {
			pairs := swapsOf(t, w, g)
			for _, pair := range pairs {
				if len(pair) != 2 || pair[0] >= pair[1] || !impl.SwapMay(w, g, pair[0], pair[1]) {
					t.Errorf("SwapAll(%v, %v) has %v", w, g, pair)
				}
			}
			if (len(pairs) == 0) != impl.SwapStill(w, g) {
				t.Errorf("SwapAll(%v, %v) = %v, SwapStill %t", w, g, pairs, impl.SwapStill(w, g))
			}
			all++
			if len(pairs) == 0 {
				none++
			}
		}
	}
	wantBoth(t, "SwapAll is empty", none, all)
}

func TestPromise35(t *testing.T) {
	for _, w := range sampleWishes(5) {
		for _, g := range ordersOf[len(w)] {
			for _, pair := range listsOver(2, 0, len(w)-1) {
				if pair[0] == pair[1] {
					continue
				}
				h := behindSwap(t, w, g, pair[0], pair[1])
				if two := slices.Sorted(slices.Values(pair)); !slices.Equal(exchanged(g, h), two) || !impl.HouseGiving(len(w), h) {
					t.Errorf("SwapDo(%v, %v) for %v = %v", w, g, pair, h)
				}
				if back := behindSwap(t, w, h, pair[0], pair[1]); !slices.Equal(back, g) {
					t.Errorf("SwapDo(%v) for %v leads from %v to %v, and on to %v", w, pair, g, h, back)
				}
			}
		}
	}
}

func TestPromise36(t *testing.T) {
	all, met := 0, 0
	for _, w := range sampleWishes(10) {
		for _, g := range ordersOf[len(w)] {
			all++
			if !impl.SwapStill(w, g) {
				continue
			}
			met++
			for _, pair := range listsOver(2, 0, len(w)-1) {
				if impl.SwapMay(w, g, pair[0], pair[1]) {
					t.Errorf("SwapStill(%v, %v) holds, and SwapMay for %v", w, g, pair)
				}
			}
		}
	}
	wantBoth(t, "SwapStill holds", met, all)
}

func TestPromise37(t *testing.T) {
	all, better := 0, 0
	for _, w := range sampleWishes(100) {
		ends, ok := impl.SwapEnds(w)
		if !ok || len(ends) == 0 {
			t.Errorf("SwapEnds(%v) = %v, %t", w, ends, ok)
		}
		for _, g := range ends {
			if !impl.SwapStill(w, g) {
				t.Errorf("SwapEnds(%v) has %v, which is not still", w, g)
			}
			for i, house := range g {
				if impl.HouseLikes(w, i, i, house) {
					t.Errorf("SwapEnds(%v) has %v, and %d likes the own house better", w, g, i)
				}
				all++
				if house != i {
					better++
				}
			}
		}
	}
	wantBoth(t, "people like what comes better than the own house", better, all)
}

func TestPromise38(t *testing.T) {
	all, none, most := append(sampleWishes(100), fourLong, fiveLong), 0, map[int]int{}
	for _, w := range all {
		n := len(w)
		swaps, ok := impl.SwapLong(w)
		if !ok || swaps < 0 || swaps > n*(n-1)/2 {
			t.Errorf("SwapLong(%v) = %d, %t", w, swaps, ok)
		}
		if (swaps == 0) != impl.SwapStill(w, countUp(n)) {
			t.Errorf("SwapLong(%v) = %d, SwapStill of the beginning %t", w, swaps, impl.SwapStill(w, countUp(n)))
		}
		most[n] = max(most[n], swaps)
		if swaps == 0 {
			none++
		}
	}
	wantBoth(t, "the beginning is still", none, len(all))
	for _, n := range []int{2, 4, 5} {
		wantNumber(t, "the most swaps", most[n], true, n*(n-1)/2)
	}
}
