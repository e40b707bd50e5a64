package tests

import (
	"slices"
	"strings"
	"testing"

	"loop.example/tradecircles/impl"
)

// promiseTables also has lists that are no rate tables.
func promiseTables() [][][]int {
	return append(sampleTables(), noTables()...)
}

// rateTexts returns texts that may prove something of a table: with the words, moneys and prices of proofs, and spoiled ones.
func rateTexts(a [][]int) []string {
	var all []string
	if len(a) < 2 || len(a) > impl.MoneyMax {
		return []string{"gains 0 1", "holds 1 1", "holds 1"}
	}
	for _, ring := range waysOver(len(a)) {
		all = append(all, proofText("gains", ring), proofText("holds", ring))
	}
	for _, x := range []int{1, 7, mostPrice} {
		all = append(all, proofText("holds", slices.Repeat([]int{x}, len(a))))
	}
	if text, ok := impl.ProofRate(a); ok {
		all = append(all, text, text+" ", " "+text, text+" 1", strings.Replace(text, " ", "  ", 1), strings.Replace(text, "gains", "holds", 1), strings.Replace(text, "holds", "gains", 1))
	}
	return all
}

// eachGiven has wishes with each of their givings, and with lists that are none.
func eachGiven(f func(w [][]int, g []int)) {
	for _, w := range sampleWishes(1) {
		for _, g := range ordersOf[len(w)] {
			f(w, g)
		}
		for _, g := range noOrders(countUp(len(w)))[:9] {
			f(w, g)
		}
	}
	for _, w := range spoiledWishes(threeSwap) {
		f(w, countUp(3))
		f(w, []int{1, 0, 2})
	}
}

func TestPromise96(t *testing.T) {
	all, met, gains := 0, 0, 0
	for _, a := range promiseTables() {
		all++
		text, ok := impl.ProofRate(a)
		if !ok {
			continue
		}
		met++
		value, ok := impl.ProofRateIs(a, text)
		if !ok || (value == 1) != impl.RateGains(a) || value != 0 && value != 1 {
			t.Errorf("ProofRate(%v) = %q, ProofRateIs of it = %d, %t, RateGains %t", a, text, value, ok, impl.RateGains(a))
		}
		gains += value
	}
	wantBoth(t, "ProofRate succeeds", met, all)
	wantBoth(t, "it proves that a round gains", gains, met)
}

func TestPromise97(t *testing.T) {
	all, met, gains := 0, 0, 0
	for _, a := range promiseTables() {
		for _, text := range rateTexts(a) {
			all++
			value, ok := impl.ProofRateIs(a, text)
			if !ok {
				continue
			}
			met++
			if (value == 1) != impl.RateGains(a) || value != 0 && value != 1 {
				t.Errorf("ProofRateIs(%v, %q) = %d, RateGains %t", a, text, value, impl.RateGains(a))
			}
			gains += value
		}
	}
	wantBoth(t, "ProofRateIs succeeds", met, all)
	wantBoth(t, "a round is proven to gain", gains, met)
}

func TestPromise98(t *testing.T) {
	all, met := 0, 0
	for _, a := range promiseTables() {
		_, rounds := impl.RateRounds(a)
		_, proof := impl.ProofRate(a)
		if proof != rounds {
			t.Errorf("RateRounds(%v) succeeds: %t, ProofRate: %t", a, rounds, proof)
		}
		all++
		if rounds {
			met++
		}
	}
	wantBoth(t, "RateRounds succeeds", met, all)
}

func TestPromise99(t *testing.T) {
	all, met := 0, 0
	eachGiven(func(w [][]int, g []int) {
		all++
		text, ok := impl.ProofBlock(w, g)
		if !ok {
			return
		}
		met++
		if !impl.ProofBlockIs(w, g, text) || impl.HouseFirm(w, g) {
			t.Errorf("ProofBlock(%v, %v) = %q, ProofBlockIs %t, HouseFirm %t", w, g, text, impl.ProofBlockIs(w, g, text), impl.HouseFirm(w, g))
		}
	})
	wantBoth(t, "ProofBlock succeeds", met, all)
}

func TestPromise100(t *testing.T) {
	all, met := 0, 0
	eachGiven(func(w [][]int, g []int) {
		traded, _ := impl.HouseTrade(w)
		firm := impl.HouseFirm(w, g)
		for n := 2; n <= len(w); n++ {
			for _, list := range ordersOf[n] {
				all++
				text := proofText("block", list)
				if !impl.ProofBlockIs(w, g, text) {
					continue
				}
				met++
				if firm || slices.Equal(traded, g) {
					t.Errorf("ProofBlockIs(%v, %v, %q) holds, HouseFirm %t, HouseTrade %v", w, g, text, firm, traded)
				}
			}
		}
	})
	wantBoth(t, "ProofBlockIs holds", met, all)
}

func TestPromise101(t *testing.T) {
	all, met := 0, 0
	eachGiven(func(w [][]int, g []int) {
		blocked := false
		for set := range everyone(impl.PeopleMax) + 1 {
			blocked = blocked || impl.HouseBlocks(w, g, set)
		}
		if _, ok := impl.ProofBlock(w, g); ok != blocked {
			t.Errorf("HouseBlocks(%v, %v) holds for some set: %t, ProofBlock succeeds: %t", w, g, blocked, ok)
		}
		all++
		if blocked {
			met++
		}
	})
	wantBoth(t, "HouseBlocks holds", met, all)
}

func TestPromise102(t *testing.T) {
	all, met := 0, 0
	eachGiven(func(w [][]int, g []int) {
		all++
		text, ok := impl.ProofTurn(w, g)
		if !ok {
			return
		}
		met++
		order, _ := impl.TurnOrder(w, g)
		if !impl.ProofTurnIs(w, g, text) || !impl.TurnGood(w, g) || text != proofText("turns", order) {
			t.Errorf("ProofTurn(%v, %v) = %q, ProofTurnIs %t, TurnGood %t, TurnOrder %v", w, g, text, impl.ProofTurnIs(w, g, text), impl.TurnGood(w, g), order)
		}
	})
	wantBoth(t, "ProofTurn succeeds", met, all)
}

func TestPromise103(t *testing.T) {
	all, met := 0, 0
	eachGiven(func(w [][]int, g []int) {
		good := impl.TurnGood(w, g)
		for n := 2; n <= len(w); n++ {
			for _, order := range ordersOf[n] {
				all++
				text := proofText("turns", order)
				if !impl.ProofTurnIs(w, g, text) {
					continue
				}
				met++
				if taken, ok := impl.TurnTake(w, order); !good || !ok || !slices.Equal(taken, g) {
					t.Errorf("ProofTurnIs(%v, %v, %q) holds, TurnGood %t, TurnTake %v", w, g, text, good, taken)
				}
			}
		}
	})
	wantBoth(t, "ProofTurnIs holds", met, all)
}

func TestPromise104(t *testing.T) {
	all, met := 0, 0
	eachGiven(func(w [][]int, g []int) {
		good := impl.TurnGood(w, g)
		if _, ok := impl.ProofTurn(w, g); ok != good {
			t.Errorf("TurnGood(%v, %v) = %t, ProofTurn succeeds: %t", w, g, good, ok)
		}
		all++
		if good {
			met++
		}
	})
	wantBoth(t, "TurnGood holds", met, all)
}
