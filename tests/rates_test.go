package tests

import (
	"slices"
	"testing"

	"loop.example/tradecircles/impl"
)

var (
	twoGain  = [][]int{{12, 24}, {7, 12}}
	twoFair  = [][]int{{12, 24}, {6, 12}}
	twoLose  = [][]int{{12, 24}, {5, 12}}
	threeMix = [][]int{{12, 12, 24}, {6, 12, 24}, {12, 12, 12}}
	fiveMix  = [][]int{
		{12, 13, 2, 1, 30},
		{11, 12, 40, 1, 2},
		{1, 3, 12, 144, 5},
		{9, 2, 1, 12, 6},
		{4, 1, 7, 24, 12},
	}
)

func wantNumber(t *testing.T, what string, got int, ok bool, want int) {
	t.Helper()
	if !ok || got != want {
		t.Errorf("%s = %d, %t, want %d, true", what, got, ok, want)
	}
}

func TestRateConstants(t *testing.T) {
	if impl.MoneyMax != 5 || impl.RateBase != 12 {
		t.Errorf("MoneyMax = %d, RateBase = %d", impl.MoneyMax, impl.RateBase)
	}
}

func TestRateIn(t *testing.T) {
	for _, a := range [][][]int{twoGain, twoFair, twoLose, threeMix, fiveMix, {{12, 1}, {144, 12}}, {{12, 144}, {1, 12}}} {
		if !impl.RateIn(a) {
			t.Errorf("RateIn(%v) does not hold", a)
		}
	}
	for _, a := range sampleTables() {
		if !impl.RateIn(a) {
			t.Errorf("RateIn(%v) does not hold", a)
		}
	}
}

func TestRateWayExamples(t *testing.T) {
	for _, c := range []struct {
		a    [][]int
		way  []int
		want int
	}{
		{twoGain, []int{0, 1}, 24},
		{twoGain, []int{1, 0}, 7},
		{threeMix, []int{0, 2}, 24 * 12},
		{threeMix, []int{1, 0}, 6 * 12},
		{threeMix, []int{2, 1, 0}, 12 * 6},
		{fiveMix, []int{0, 1}, 13 * 12 * 12 * 12},
		{fiveMix, []int{4, 0, 1}, 4 * 13 * 12 * 12},
		{fiveMix, []int{3, 0, 1, 2}, 9 * 13 * 40 * 12},
		{fiveMix, []int{0, 1, 2, 3, 4}, 13 * 40 * 144 * 6},
		{evenTable(5, 144), []int{4, 3, 2, 1, 0}, 429981696},
		{evenTable(5, 1), []int{4, 3, 2, 1, 0}, 1},
	} {
		got, ok := impl.RateWay(c.a, c.way)
		wantNumber(t, "RateWay", got, ok, c.want)
	}
}

func TestRateRoundExamples(t *testing.T) {
	for _, c := range []struct {
		a    [][]int
		ring []int
		want int
	}{
		{twoGain, []int{0, 1}, 168},
		{twoFair, []int{0, 1}, 144},
		{twoLose, []int{0, 1}, 120},
		{threeMix, []int{0, 1}, 12 * 6 * 12},
		{threeMix, []int{1, 2}, 24 * 12 * 12},
		{threeMix, []int{0, 1, 2}, 12 * 24 * 12},
		{threeMix, []int{0, 2, 1}, 24 * 12 * 6},
		{fiveMix, []int{0, 1, 2, 3, 4}, 13 * 40 * 144 * 6 * 4},
		{fiveMix, []int{2, 3, 4}, 144 * 6 * 7 * 12 * 12},
		{fiveMix, []int{1, 4, 3, 2}, 2 * 24 * 1 * 3 * 12},
		{evenTable(5, 144), []int{0, 4, 1, 3, 2}, 61917364224},
		{evenTable(5, 1), []int{0, 4, 1, 3, 2}, 1},
	} {
		got, ok := impl.RateRound(c.a, c.ring)
		wantNumber(t, "RateRound", got, ok, c.want)
	}
}

func TestRateGainExamples(t *testing.T) {
	for _, c := range []struct {
		a     [][]int
		count int
		first []int
		fair  bool
	}{
		{twoGain, 1, []int{0, 1}, false},
		{twoFair, 0, nil, true},
		{twoLose, 0, nil, false},
		{threeMix, 3, []int{0, 1, 2}, false},
		{[][]int{{12, 13, 1}, {12, 12, 1}, {1, 1, 12}}, 1, []int{0, 1}, false},
		{[][]int{{12, 1, 13}, {1, 12, 1}, {12, 1, 12}}, 1, []int{0, 2}, false},
		{[][]int{{12, 1, 1}, {1, 12, 12}, {1, 13, 12}}, 1, []int{1, 2}, false},
		{[][]int{{12, 1, 12}, {12, 12, 1}, {1, 13, 12}}, 1, []int{0, 2, 1}, false},
		{evenTable(5, 12), 0, nil, true},
		{evenTable(5, 11), 0, nil, false},
		{evenTable(2, 13), 1, []int{0, 1}, false},
		{evenTable(3, 13), 5, []int{0, 1}, false},
		{evenTable(4, 13), 20, []int{0, 1}, false},
		{evenTable(5, 144), 84, []int{0, 1}, false},
	} {
		count, ok := impl.RateRounds(c.a)
		wantNumber(t, "RateRounds", count, ok, c.count)
		first, ok := impl.RateFirst(c.a)
		if ok != (c.count > 0) || !slices.Equal(first, c.first) {
			t.Errorf("RateFirst(%v) = %v, %t, want %v", c.a, first, ok, c.first)
		}
		if got := impl.RateGains(c.a); got != (c.count > 0) {
			t.Errorf("RateGains(%v) = %t", c.a, got)
		}
		if got := impl.RateFair(c.a); got != c.fair {
			t.Errorf("RateFair(%v) = %t", c.a, got)
		}
	}
}

func TestRateBestExamples(t *testing.T) {
	for _, c := range []struct {
		a    [][]int
		i, k int
		want int
	}{
		{twoGain, 0, 1, 24},
		{twoGain, 1, 0, 7},
		{twoGain, 1, 1, 12},
		{threeMix, 0, 1, 24 * 12},
		{threeMix, 1, 0, 24 * 12},
		{threeMix, 2, 2, 144},
		{fiveMix, 0, 3, 13 * 40 * 144 * 12},
		{fiveMix, 0, 4, 13 * 40 * 144 * 6},
		{fiveMix, 1, 0, 40 * 144 * 9 * 12},
		{fiveMix, 4, 4, 20736},
		{evenTable(5, 144), 3, 0, 429981696},
		{evenTable(5, 1), 3, 0, 1728},
	} {
		got, ok := impl.RateBest(c.a, c.i, c.k)
		wantNumber(t, "RateBest", got, ok, c.want)
	}
}

func TestRateStepExamples(t *testing.T) {
	for _, c := range []struct {
		a    [][]int
		i, k int
		want int
	}{
		{twoGain, 0, 1, 24},
		{twoGain, 1, 0, 7},
		{twoGain, 0, 0, 12},
		{threeMix, 0, 0, 24 * 12},
		{threeMix, 0, 1, 24 * 12},
		{evenTable(3, 144), 0, 0, 144 * 144},
		{evenTable(3, 144), 0, 1, 144 * 144},
		{evenTable(5, 144), 2, 2, 429981696},
		{evenTable(5, 1), 2, 2, 20736},
		{evenTable(5, 1), 2, 3, 1728},
	} {
		got, ok := impl.RateStep(c.a, c.i, c.k)
		wantNumber(t, "RateStep", got, ok, c.want)
	}
	// The changes from 3 to 0, to 2 and back to 0 are more than any way, for no way has 0 twice.
	a := [][]int{{12, 1, 24, 1}, {1, 12, 1, 1}, {24, 1, 12, 1}, {24, 1, 1, 12}}
	best, _ := impl.RateBest(a, 3, 0)
	step, ok := impl.RateStep(a, 3, 0)
	wantNumber(t, "RateStep", step, ok, 24*24*24)
	if best != 24*12*12 {
		t.Errorf("RateBest = %d", best)
	}
}

func TestRateTurnAndNamedExamples(t *testing.T) {
	turned, ok := impl.RateTurn([][]int{{12, 2, 3}, {4, 12, 6}, {7, 8, 12}})
	if !ok || !sameRows(turned, [][]int{{12, 4, 7}, {2, 12, 8}, {3, 6, 12}}) {
		t.Errorf("RateTurn = %v, %t", turned, ok)
	}
	named, ok := impl.RateNamed([][]int{{12, 2, 3}, {4, 12, 6}, {7, 8, 12}}, []int{1, 2, 0})
	if !ok || !sameRows(named, [][]int{{12, 7, 8}, {3, 12, 2}, {6, 4, 12}}) {
		t.Errorf("RateNamed = %v, %t", named, ok)
	}
	named, ok = impl.RateNamed(twoGain, []int{1, 0})
	if !ok || !sameRows(named, [][]int{{12, 7}, {24, 12}}) {
		t.Errorf("RateNamed = %v, %t", named, ok)
	}
}

// TestTwoMoneys tries all rate tables of two moneys.
func TestTwoMoneys(t *testing.T) {
	for x := 1; x <= 144; x++ {
		for y := 1; y <= 144; y++ {
			a := [][]int{{12, x}, {y, 12}}
			round, ok := impl.RateRound(a, []int{0, 1})
			wantNumber(t, "RateRound", round, ok, x*y)
			if _, ok := impl.RateFirst(a); ok != (x*y > 144) || impl.RateGains(a) != ok {
				t.Errorf("%v: RateFirst succeeds: %t, RateGains: %t", a, ok, !ok)
			}
			if impl.RateFair(a) != (x*y == 144) {
				t.Errorf("RateFair(%v) = %t", a, x*y != 144)
			}
			for _, c := range [][3]int{{0, 0, 12}, {0, 1, x}, {1, 0, y}, {1, 1, 12}} {
				best, ok := impl.RateBest(a, c[0], c[1])
				wantNumber(t, "RateBest", best, ok, c[2])
				step, ok := impl.RateStep(a, c[0], c[1])
				wantNumber(t, "RateStep", step, ok, c[2])
			}
		}
	}
}

// TestRoundsByTrying compares with all lists of moneys, sorted.
func TestRoundsByTrying(t *testing.T) {
	for _, a := range sampleTables() {
		rings := roundsThatGain(a)
		count, ok := impl.RateRounds(a)
		wantNumber(t, "RateRounds", count, ok, len(rings))
		if impl.RateGains(a) != (len(rings) > 0) {
			t.Errorf("RateGains(%v) is not %t", a, len(rings) > 0)
		}
		first, ok := impl.RateFirst(a)
		if ok != (len(rings) > 0) || ok && !slices.Equal(first, rings[0]) {
			t.Errorf("RateFirst(%v) = %v, %t, want the first one of %v", a, first, ok, rings)
		}
		fair := true
		for _, ring := range roundsOver(len(a)) {
			value, ok := impl.RateRound(a, ring)
			wantNumber(t, "RateRound", value, ok, roundWorth(a, ring))
			fair = fair && value == power(12, len(a))
		}
		if impl.RateFair(a) != fair {
			t.Errorf("RateFair(%v) is not %t", a, fair)
		}
	}
}

// TestSmallTablesByTrying tries all tables of three moneys with some numbers around a unit.
func TestSmallTablesByTrying(t *testing.T) {
	numbers := []int{6, 9, 12, 16, 24}
	for _, choice := range listsOver(6, 0, len(numbers)-1) {
		n := func(place int) int { return numbers[choice[place]] }
		a := [][]int{{12, n(0), n(1)}, {n(2), 12, n(3)}, {n(4), n(5), 12}}
		rings := roundsThatGain(a)
		first, _ := impl.RateFirst(a)
		count, _ := impl.RateRounds(a)
		if count != len(rings) || count > 0 && !slices.Equal(first, rings[0]) {
			t.Fatalf("%v: RateRounds = %d, RateFirst = %v, want %v", a, count, first, rings)
		}
		fair := !slices.ContainsFunc(roundsOver(3), func(ring []int) bool { return roundWorth(a, ring) != 1728 })
		if impl.RateFair(a) != fair {
			t.Fatalf("RateFair(%v) is not %t", a, fair)
		}
	}
}

func TestBestAndStepByTrying(t *testing.T) {
	for _, a := range sampleTables() {
		for i := range a {
			for k := range a {
				best, ok := impl.RateBest(a, i, k)
				wantNumber(t, "RateBest", best, ok, bestByTrying(a, i, k))
				step, ok := impl.RateStep(a, i, k)
				wantNumber(t, "RateStep", step, ok, stepByTrying(a, i, k))
			}
		}
	}
}
