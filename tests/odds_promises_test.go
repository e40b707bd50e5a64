package tests

import (
	"slices"
	"testing"

	"loop.example/tradecircles/impl"
)

// promiseOdds are the odds for which the promises of the chapter are tried.
func promiseOdds() [][]int {
	return slices.Concat(fewOdds(12), sampleOdds(40))
}

func twentiesFor(o []int) []int {
	return slices.Repeat([]int{mostOddsNumber}, len(o))
}

func TestPromise78(t *testing.T) {
	all, met := 0, 0
	for _, o := range slices.Concat(promiseOdds(), notOdds()) {
		all++
		if !impl.OddsIn(o) {
			continue
		}
		met++
		great := slices.Clone(o)
		great[0] = 20
		if !impl.OddsIn(great) {
			t.Errorf("OddsIn(%v) does not hold", great)
		}
		wantBetter(t, o, great, great)
	}
	wantBoth(t, "OddsIn holds", met, all)
}

func TestPromise79(t *testing.T) {
	all, sure := 0, 0
	for _, o := range promiseOdds() {
		upper, lower := sumPartsOf(t, o)
		parts := []int{upper, lower}
		if upper < 1 || lower < 1 || !slices.Equal(withoutDivisor(parts), parts) || (upper < lower) != impl.OddsSure(o) {
			t.Errorf("OddsSum(%v) = %d, %d, OddsSure %t", o, upper, lower, impl.OddsSure(o))
		}
		all++
		if upper < lower {
			sure++
		}
	}
	wantBoth(t, "OddsSure holds", sure, all)
}

func TestPromise80(t *testing.T) {
	all, met := 0, 0
	for _, o := range promiseOdds() {
		all++
		if !impl.OddsSure(o) {
			continue
		}
		met++
		if s, best := stakesOf(t, o), betterOf(t, o, twentiesFor(o)); !impl.OddsWins(o, s) || !impl.OddsSure(best) {
			t.Errorf("OddsSure(%v) holds, OddsWins with %v %t, OddsSure of %v %t", o, s, impl.OddsWins(o, s), best, impl.OddsSure(best))
		}
	}
	wantBoth(t, "OddsSure holds", met, all)
}

func TestPromise81(t *testing.T) {
	for _, o := range promiseOdds() {
		s := stakesOf(t, o)
		for i, number := range o {
			if number*s[i] != o[0]*s[0] {
				t.Errorf("OddsStakes(%v) = %v, but the return for %d is %d, and for 0 %d", o, s, i, number*s[i], o[0]*s[0])
			}
		}
		least, sum := leastOf(t, o, s)
		if upper, lower := sumPartsOf(t, o); least*upper != sum*lower || sum == 0 {
			t.Errorf("OddsLeast(%v, %v) = %d, %d, OddsSum %d, %d", o, s, least, sum, upper, lower)
		}
	}
}

func TestPromise82(t *testing.T) {
	d := dice(440)
	all, same := 0, 0
	for _, o := range slices.Concat(fewOdds(6), sampleOdds(15)) {
		upper, lower := sumPartsOf(t, o)
		for _, s := range tellingStakes(&d, o) {
			least, sum := leastOf(t, o, s)
			if sum*lower < least*upper {
				t.Errorf("OddsLeast(%v, %v) = %d, %d, OddsSum %d, %d", o, s, least, sum, upper, lower)
			}
			all++
			if sum*lower == least*upper {
				same++
			}
		}
	}
	wantBoth(t, "the sum is no more than it must be", same, all)
}

func TestPromise83(t *testing.T) {
	d := dice(450)
	all, met := 0, 0
	for _, o := range slices.Concat(fewOdds(6), sampleOdds(15)) {
		for _, s := range tellingStakes(&d, o) {
			all++
			if !impl.OddsWins(o, s) {
				continue
			}
			met++
			if least, sum := leastOf(t, o, s); !impl.OddsSure(o) || least <= sum {
				t.Errorf("OddsWins(%v, %v) holds, OddsSure %t, OddsLeast %d, %d", o, s, impl.OddsSure(o), least, sum)
			}
		}
	}
	wantBoth(t, "OddsWins holds", met, all)
}

func TestPromise84(t *testing.T) {
	d := dice(460)
	all, sure, either := 0, 0, 0
	for _, o := range promiseOdds() {
		for _, q := range [][]int{randomOdds(&d, len(o), 1, mostOddsNumber), randomOdds(&d, len(o), len(o), mostOddsNumber), backwards(o), slices.Repeat([]int{1}, len(o))} {
			best := betterOf(t, o, q)
			wantBetter(t, o, q, best)
			all++
			if impl.OddsSure(best) {
				sure++
			}
			if !impl.OddsSure(o) && !impl.OddsSure(q) {
				continue
			}
			either++
			if !impl.OddsSure(best) {
				t.Errorf("OddsBest(%v, %v) = %v is not sure", o, q, best)
			}
		}
	}
	wantBoth(t, "OddsSure holds for OddsBest", sure, all)
	wantBoth(t, "OddsSure holds for one of both", either, sure)
}

func TestPromise85(t *testing.T) {
	all, met := 0, 0
	for _, o := range promiseOdds() {
		all++
		rest, ok := impl.OddsRest(o)
		if !ok {
			continue
		}
		met++
		if rest > mostOddsNumber || !impl.OddsSure(withNumber(o, rest)) || !impl.OddsSure(o) {
			t.Errorf("OddsRest(%v) = %d, OddsSure with it behind %t, without it %t", o, rest, impl.OddsSure(withNumber(o, rest)), impl.OddsSure(o))
		}
		if rest >= 2 && impl.OddsSure(withNumber(o, rest-1)) {
			t.Errorf("OddsRest(%v) = %d, but one less is enough", o, rest)
		}
	}
	wantBoth(t, "OddsRest succeeds", met, all)
}

func TestPromise86(t *testing.T) {
	all, same := 0, 0
	for _, o := range promiseOdds() {
		turned := backwards(o)
		upper, lower := sumPartsOf(t, o)
		if turnedUpper, turnedLower := sumPartsOf(t, turned); turnedUpper != upper || turnedLower != lower {
			t.Errorf("OddsSum(%v) = %d, %d, but backwards %d, %d", o, upper, lower, turnedUpper, turnedLower)
		}
		all++
		if slices.Equal(turned, o) {
			same++
		}
	}
	wantBoth(t, "odds are the same backwards", same, all)
}
