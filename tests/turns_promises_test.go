package tests

import (
	"slices"
	"testing"

	"loop.example/tradecircles/impl"
)

func TestPromise39(t *testing.T) {
	all, more := 0, 0
	for _, w := range sampleWishes(40) {
		stills, ok := impl.SwapStills(w)
		goods := len(goodsOf(t, w))
		if ends := len(endsOf(t, w)); !ok || stills < ends || stills < goods {
			t.Errorf("SwapStills(%v) = %d, %t, but SwapEnds has %d and TurnGoods has %d", w, stills, ok, ends, goods)
		}
		all++
		if stills > goods {
			more++
		}
	}
	wantBoth(t, "there are more still givings than good ones", more, all)
}

func TestPromise40(t *testing.T) {
	for _, w := range sampleWishes(10) {
		for _, order := range ordersOf[len(w)] {
			g := takenHouses(t, w, order)
			if !impl.TurnGood(w, g) || g[order[0]] != w[order[0]][0] {
				t.Errorf("TurnTake(%v, %v) = %v, TurnGood %t", w, order, g, impl.TurnGood(w, g))
			}
			if first, ok := impl.TurnOrder(w, g); !ok || slices.Compare(first, order) > 0 {
				t.Errorf("TurnTake(%v, %v) = %v, but TurnOrder is %v, %t", w, order, g, first, ok)
			}
		}
	}
}

func TestPromise41(t *testing.T) {
	counts := map[int]bool{}
	for _, w := range sampleWishes(40) {
		all, goods := takenInAll(t, w), goodsOf(t, w)
		if !sameRows(all, goods) {
			t.Errorf("TurnAll(%v) = %v, TurnGoods %v", w, all, goods)
		}
		// In the order of lists, each one once.
		for i := 1; i < len(all); i++ {
			if slices.Compare(all[i-1], all[i]) >= 0 {
				t.Errorf("TurnAll(%v) has %v ahead of %v", w, all[i-1], all[i])
			}
		}
		counts[len(all)] = true
	}
	for _, count := range []int{1, 2, 6, 24, 120} {
		if !counts[count] {
			t.Errorf("no sample has %d good givings", count)
		}
	}
}

func TestPromise42(t *testing.T) {
	all, met := 0, 0
	for _, w := range sampleWishes(10) {
		for _, g := range ordersOf[len(w)] {
			all++
			if !impl.TurnGood(w, g) {
				continue
			}
			met++
			if many, happy := manyOf(t, w, g), happyOf(t, w, g); many < 1 || !impl.SwapStill(w, g) || happy < 1 {
				t.Errorf("TurnGood(%v, %v) holds, but TurnMany is %d, SwapStill %t, TurnHappy %d", w, g, many, impl.SwapStill(w, g), happy)
			}
		}
	}
	wantBoth(t, "TurnGood holds", met, all)
}

func TestPromise43(t *testing.T) {
	for _, w := range sampleWishes(40) {
		goods, traded := goodsOf(t, w), tradedHouses(t, w)
		if !slices.ContainsFunc(goods, func(g []int) bool { return slices.Equal(g, traded) }) {
			t.Errorf("TurnGoods(%v) = %v is without HouseTrade, %v", w, goods, traded)
		}
		for _, g := range goods {
			if !impl.TurnGood(w, g) {
				t.Errorf("TurnGoods(%v) has %v", w, g)
			}
		}
	}
}

func TestPromise44(t *testing.T) {
	all, met := 0, 0
	for _, w := range sampleWishes(10) {
		for _, g := range ordersOf[len(w)] {
			all++
			order, ok := impl.TurnOrder(w, g)
			if !ok {
				continue
			}
			met++
			if taken := takenHouses(t, w, order); !slices.Equal(taken, g) || !impl.TurnGood(w, g) {
				t.Errorf("TurnOrder(%v, %v) = %v, but TurnTake is %v, and TurnGood %t", w, g, order, taken, impl.TurnGood(w, g))
			}
		}
	}
	wantBoth(t, "TurnOrder succeeds", met, all)
}

func TestPromise45(t *testing.T) {
	all, none := 0, 0
	for _, w := range sampleWishes(10) {
		for _, g := range ordersOf[len(w)] {
			many := manyOf(t, w, g)
			if (many == 0) != !impl.TurnGood(w, g) || many < 0 || many > len(ordersOf[len(w)]) {
				t.Errorf("TurnMany(%v, %v) = %d, TurnGood %t", w, g, many, impl.TurnGood(w, g))
			}
			all++
			if many == 0 {
				none++
			}
		}
	}
	wantBoth(t, "TurnMany is 0", none, all)
}

func TestPromise46(t *testing.T) {
	all, met := 0, 0
	for _, w := range sampleWishes(10) {
		traded, turns := tradedHouses(t, w), turnsOf(t, w)
		for _, g := range ordersOf[len(w)] {
			happy := happyOf(t, w, g)
			if happy < 0 || happy > len(w) || (happy == len(w)) != (slices.Equal(g, traded) && turns == 1) {
				t.Errorf("TurnHappy(%v, %v) = %d, HouseTrade %v, HouseTurns %d", w, g, happy, traded, turns)
			}
			all++
			if happy == len(w) {
				met++
			}
		}
	}
	wantBoth(t, "all are happy", met, all)
}

func TestPromise47(t *testing.T) {
	for _, w := range sampleWishes(40) {
		g := tradedHouses(t, w)
		if many := manyOf(t, w, g); !impl.TurnGood(w, g) || many < 1 {
			t.Errorf("HouseTrade(%v) = %v, but TurnGood is %t, and TurnMany %d", w, g, impl.TurnGood(w, g), many)
		}
	}
}

func TestPromise48(t *testing.T) {
	for _, w := range sampleWishes(10) {
		sum := 0
		for _, g := range takenInAll(t, w) {
			sum += manyOf(t, w, g)
		}
		if want := []int{2: 2, 3: 6, 4: 24, 5: 120}[len(w)]; sum != want {
			t.Errorf("TurnMany of TurnAll(%v) adds up to %d, want %d", w, sum, want)
		}
	}
}
