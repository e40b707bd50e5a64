package tests

import (
	"slices"
	"testing"

	"loop.example/tradecircles/impl"
)

// wantBoth has a promise tried: some samples must meet its condition, and some must not.
func wantBoth(t *testing.T, what string, met int, all int) {
	t.Helper()
	if met == 0 || met == all {
		t.Errorf("%s in %d of %d samples", what, met, all)
	}
}

func TestPromise12(t *testing.T) {
	told := 0
	for _, p := range samplePrices() {
		if !impl.PriceIn(p) {
			t.Errorf("PriceIn(%v) does not hold", p)
		}
		if len(p) >= 3 && !impl.PriceIn(p[:len(p)-1]) {
			t.Errorf("PriceIn(%v) does not hold", p[:len(p)-1])
		}
		worth, ok := impl.PriceWorth(p, make([]int, len(p)))
		if worth != 0 || ok != (slices.Max(p) <= 1000000) {
			t.Errorf("PriceWorth(%v, no units) = %d, %t", p, worth, ok)
		}
		if ok {
			told++
		}
	}
	wantBoth(t, "PriceWorth succeeds", told, len(samplePrices()))
}

func TestPromise13(t *testing.T) {
	all, met := samplePriced(), 0
	for _, c := range all {
		if !impl.PriceFits(c.a, c.p) {
			continue
		}
		met++
		if !impl.PriceHolds(c.a, c.p) || !impl.RateFair(c.a) {
			t.Errorf("PriceFits(%v, %v) holds, PriceHolds %t, RateFair %t", c.a, c.p, impl.PriceHolds(c.a, c.p), impl.RateFair(c.a))
		}
	}
	wantBoth(t, "PriceFits holds", met, len(all))
}

func TestPromise14(t *testing.T) {
	all, met := samplePriced(), 0
	for _, c := range all {
		if !impl.PriceHolds(c.a, c.p) {
			continue
		}
		met++
		if _, ok := impl.PriceFind(c.a); !ok || impl.RateGains(c.a) {
			t.Errorf("PriceHolds(%v, %v) holds, PriceFind succeeds: %t, RateGains %t", c.a, c.p, ok, impl.RateGains(c.a))
		}
	}
	wantBoth(t, "PriceHolds holds", met, len(all))
}

func TestPromise15(t *testing.T) {
	all, met := sampleTables(), 0
	for _, a := range all {
		p, ok := impl.PriceOf(a)
		if !ok {
			continue
		}
		met++
		if !impl.PriceFits(a, p) || !slices.Equal(p, withoutDivisor(p)) {
			t.Errorf("PriceOf(%v) = %v, PriceFits %t", a, p, impl.PriceFits(a, p))
		}
		if b, ok := impl.PriceTable(p); !ok || !sameRows(a, b) {
			t.Errorf("PriceTable of PriceOf(%v) = %v, %t", a, b, ok)
		}
	}
	wantBoth(t, "PriceOf succeeds", met, len(all))
}

func TestPromise16(t *testing.T) {
	all, met := sampleTables(), 0
	for _, a := range all {
		if !impl.RateFair(a) {
			continue
		}
		met++
		if _, ok := impl.PriceOf(a); !ok {
			t.Errorf("RateFair(%v) holds, but PriceOf fails", a)
		}
	}
	wantBoth(t, "RateFair holds", met, len(all))
}

func TestPromise17(t *testing.T) {
	all, met := sampleTables(), 0
	for _, a := range all {
		p, ok := impl.PriceFind(a)
		if !ok {
			continue
		}
		met++
		if !impl.PriceHolds(a, p) {
			t.Errorf("PriceFind(%v) = %v does not hold it", a, p)
		}
	}
	wantBoth(t, "PriceFind succeeds", met, len(all))
}

func TestPromise18(t *testing.T) {
	all, met := sampleTables(), 0
	for _, a := range all {
		count, ok := impl.RateRounds(a)
		_, found := impl.PriceFind(a)
		if !ok || found != (count == 0) {
			t.Errorf("RateRounds(%v) = %d, %t, PriceFind succeeds: %t", a, count, ok, found)
		}
		if found {
			met++
		}
	}
	wantBoth(t, "PriceFind succeeds", met, len(all))
}

func TestPromise19(t *testing.T) {
	all, met := samplePrices(), 0
	for _, p := range all {
		a, ok := impl.PriceTable(p)
		if !ok {
			continue
		}
		met++
		if !impl.PriceFits(a, p) || !impl.RateFair(a) {
			t.Errorf("PriceTable(%v) = %v, PriceFits %t, RateFair %t", p, a, impl.PriceFits(a, p), impl.RateFair(a))
		}
	}
	wantBoth(t, "PriceTable succeeds", met, len(all))
}

// TestPromise20 doubles the prices, and then the numbers of units.
func TestPromise20(t *testing.T) {
	d := dice(8)
	all, met, none, twice := samplePrices(), 0, 0, 0
	for _, p := range all {
		units := randomPrices(&d, len(p), 1+d.below(1001))
		for i := range units {
			units[i]--
		}
		worth, ok := impl.PriceWorth(p, units)
		if !ok {
			continue
		}
		met++
		noUnits := slices.Max(units) == 0
		if (worth == 0) != noUnits {
			t.Errorf("PriceWorth(%v, %v) = %d", p, units, worth)
		}
		if noUnits {
			none++
		}
		if double, ok := impl.PriceWorth(p, allTimes(units, 2)); ok {
			twice++
			wantNumber(t, "PriceWorth of doubled units", double, ok, 2*worth)
		}
		if double, ok := impl.PriceWorth(allTimes(p, 2), units); ok {
			wantNumber(t, "PriceWorth of doubled prices", double, ok, 2*worth)
		}
	}
	wantBoth(t, "PriceWorth succeeds", met, len(all))
	wantBoth(t, "there are no units", none, met)
	wantBoth(t, "doubled units are units", twice, met)
}

func TestPromise21(t *testing.T) {
	all, met := sampleTables(), 0
	for _, a := range all {
		count, ok := impl.PriceSpread(a)
		if !ok || count < 0 || count > len(a)*(len(a)-1)/2 {
			t.Errorf("PriceSpread(%v) = %d, %t", a, count, ok)
		}
		turned, ok := impl.PriceSpread(turnedTable(t, a))
		wantNumber(t, "PriceSpread of RateTurn", turned, ok, count)
		if impl.RateFair(a) {
			met++
			wantNumber(t, "PriceSpread of a fair table", count, true, 0)
		}
	}
	wantBoth(t, "RateFair holds", met, len(all))
}

func TestPromise22(t *testing.T) {
	all, met, told := samplePriced(), 0, 0
	for _, c := range all {
		if !impl.PriceHolds(c.a, c.p) {
			continue
		}
		met++
		double := allTimes(c.p, 2)
		arePrices := slices.Max(double) <= mostPrice
		if impl.PriceIn(double) != arePrices || impl.PriceHolds(c.a, double) != arePrices {
			t.Errorf("PriceHolds(%v, %v) holds, PriceIn for twice as much %t, PriceHolds %t", c.a, c.p, impl.PriceIn(double), impl.PriceHolds(c.a, double))
		}
		if arePrices {
			told++
		}
	}
	wantBoth(t, "PriceHolds holds", met, len(all))
	wantBoth(t, "doubled prices are prices", told, met)
}
