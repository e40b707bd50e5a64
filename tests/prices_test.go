package tests

import (
	"slices"
	"testing"

	"loop.example/tradecircles/impl"
)

var (
	// detour gives more of the money 0 for the money 2 by way of the money 1 than at once.
	detour    = [][]int{{12, 1, 1}, {10, 12, 12}, {1, 12, 12}}
	threeFair = [][]int{{12, 6, 4}, {24, 12, 8}, {36, 18, 12}}
	threeEven = [][]int{{12, 8, 6}, {18, 12, 9}, {24, 16, 12}}
	fiveFair  = [][]int{
		{12, 6, 4, 3, 2},
		{24, 12, 8, 6, 4},
		{36, 18, 12, 9, 6},
		{48, 24, 16, 12, 8},
		{72, 36, 24, 18, 12},
	}
)

func wantList(t *testing.T, what string, got []int, ok bool, want []int) {
	t.Helper()
	if ok != (want != nil) || !slices.Equal(got, want) {
		t.Errorf("%s = %v, %t, want %v", what, got, ok, want)
	}
}

func TestPriceIn(t *testing.T) {
	for _, p := range append(samplePrices(), []int{1, mostPrice}, []int{2, 4, 6}, []int{1, 2, 3, 4, 5}) {
		if !impl.PriceIn(p) {
			t.Errorf("PriceIn(%v) does not hold", p)
		}
	}
}

func TestPriceFitsAndHoldsExamples(t *testing.T) {
	for _, c := range []struct {
		a     [][]int
		p     []int
		fits  bool
		holds bool
	}{
		{twoFair, []int{2, 1}, true, true},
		{twoFair, []int{14, 7}, true, true},
		{twoFair, []int{1000000000, 500000000}, true, true},
		{twoFair, []int{1000000000, 499999999}, false, false},
		{twoFair, []int{1, 2}, false, false},
		{twoLose, []int{2, 1}, false, true},
		{twoLose, []int{12, 5}, false, true},
		{twoLose, []int{24, 10}, false, true},
		{twoLose, []int{24, 9}, false, false},
		{twoLose, []int{25, 13}, false, false},
		{twoGain, []int{2, 1}, false, false},
		{twoGain, []int{12, 7}, false, false},
		{threeFair, []int{1, 2, 3}, true, true},
		{threeFair, []int{5, 10, 15}, true, true},
		{threeFair, []int{1, 2, 4}, false, false},
		{threeFair, []int{3, 2, 1}, false, false},
		{threeMix, []int{1, 1, 1}, false, false},
		{detour, []int{6, 5, 5}, false, true},
		{detour, []int{12, 10, 10}, false, true},
		{detour, []int{12, 9, 9}, false, false},
		{detour, []int{12, 10, 1}, false, false},
		{fiveFair, []int{1, 2, 3, 4, 6}, true, true},
		{fiveFair, []int{100, 200, 300, 400, 600}, true, true},
		{fiveFair, []int{1, 2, 3, 4, 5}, false, false},
		{evenTable(5, 11), []int{1, 1, 1, 1, 1}, false, true},
		{evenTable(5, 11), []int{12, 11, 11, 11, 11}, false, true},
		{evenTable(5, 11), []int{12, 10, 11, 11, 11}, false, false},
		{evenTable(5, 13), []int{1, 1, 1, 1, 1}, false, false},
		{evenTable(2, 144), []int{1, 1000000000}, false, false},
		{evenTable(2, 1), []int{1, 12}, false, true},
		{evenTable(2, 1), []int{1, 13}, false, false},
	} {
		if got := impl.PriceFits(c.a, c.p); got != c.fits {
			t.Errorf("PriceFits(%v, %v) = %t", c.a, c.p, got)
		}
		if got := impl.PriceHolds(c.a, c.p); got != c.holds {
			t.Errorf("PriceHolds(%v, %v) = %t", c.a, c.p, got)
		}
	}
}

func TestPriceOfAndFindExamples(t *testing.T) {
	for _, c := range []struct {
		a    [][]int
		of   []int
		find []int
	}{
		{twoFair, []int{2, 1}, []int{2, 1}},
		{[][]int{{12, 1}, {144, 12}}, []int{1, 12}, []int{1, 12}},
		{[][]int{{12, 144}, {1, 12}}, []int{12, 1}, []int{12, 1}},
		{[][]int{{12, 8}, {18, 12}}, []int{2, 3}, []int{2, 3}},
		{twoLose, nil, []int{12, 5}},
		{twoGain, nil, nil},
		{threeFair, []int{1, 2, 3}, []int{1, 2, 3}},
		{threeEven, []int{2, 3, 4}, []int{2, 3, 4}},
		{threeMix, nil, nil},
		{detour, nil, []int{6, 5, 5}},
		{evenTable(3, 11), nil, []int{12, 11, 11}},
		{fiveFair, []int{1, 2, 3, 4, 6}, []int{1, 2, 3, 4, 6}},
		{fiveMix, nil, nil},
		{evenTable(5, 1), nil, []int{12, 1, 1, 1, 1}},
		{evenTable(5, 12), []int{1, 1, 1, 1, 1}, []int{1, 1, 1, 1, 1}},
		{evenTable(5, 144), nil, nil},
	} {
		of, ok := impl.PriceOf(c.a)
		wantList(t, "PriceOf", of, ok, c.of)
		find, ok := impl.PriceFind(c.a)
		wantList(t, "PriceFind", find, ok, c.find)
	}
}

func TestPriceTableExamples(t *testing.T) {
	for _, c := range []struct {
		p    []int
		want [][]int
	}{
		{[]int{2, 1}, twoFair},
		{[]int{1000000000, 500000000}, twoFair},
		{[]int{1, 12}, [][]int{{12, 1}, {144, 12}}},
		{[]int{1000000000, 1000000000}, evenTable(2, 12)},
		{[]int{1, 2, 3}, threeFair},
		{[]int{2, 4, 6}, threeFair},
		{[]int{1000, 2000, 3000}, threeFair},
		{[]int{2, 3, 4}, threeEven},
		{[]int{1, 2, 3, 4, 6}, fiveFair},
		{[]int{7, 14, 21, 28, 42}, fiveFair},
		{[]int{1, 13}, nil},
		{[]int{13, 1}, nil},
		{[]int{5, 7}, nil},
		{[]int{1, 24}, nil},
		{[]int{1, 1000000000}, nil},
		{[]int{999999999, 1000000000}, nil},
		{[]int{1, 2, 5}, nil},
		{[]int{1, 12, 24}, nil},
		{[]int{1, 2, 3, 4, 5}, nil},
	} {
		got, ok := impl.PriceTable(c.p)
		if ok != (c.want != nil) || !sameRows(got, c.want) {
			t.Errorf("PriceTable(%v) = %v, %t, want %v", c.p, got, ok, c.want)
		}
	}
}

func TestPriceWorthExamples(t *testing.T) {
	const most = 1000000
	for _, c := range []struct {
		p     []int
		units []int
		want  int
	}{
		{[]int{1, 2, 3}, []int{4, 0, 2}, 10},
		{[]int{2, 4, 6}, []int{4, 0, 2}, 20},
		{[]int{3, 5}, []int{0, 0}, 0},
		{[]int{3, 5}, []int{0, 1000}, 5000},
		{[]int{3, 5}, []int{1000, 0}, 3000},
		{[]int{1, most}, []int{1, 1}, most + 1},
		{[]int{1, 10, 100, 1000, 10000}, []int{5, 4, 3, 2, 1}, 12345},
		{[]int{most, most, most, most, most}, []int{1000, 1000, 1000, 1000, 1000}, 5000000000},
		{[]int{most, most, most, most, most}, []int{0, 0, 0, 0, 0}, 0},
	} {
		got, ok := impl.PriceWorth(c.p, c.units)
		wantNumber(t, "PriceWorth", got, ok, c.want)
	}
}

func TestPriceSpreadExamples(t *testing.T) {
	for _, c := range []struct {
		a    [][]int
		want int
	}{
		{[][]int{{12, 5}, {20, 12}}, 1},
		{[][]int{{12, 11}, {13, 12}}, 1},
		{twoLose, 1},
		{twoFair, 0},
		{twoGain, 0},
		{threeFair, 0},
		{threeMix, 1},
		{detour, 2},
		{fiveFair, 0},
		{fiveMix, 8},
		{evenTable(3, 11), 3},
		{evenTable(4, 11), 6},
		{evenTable(5, 11), 10},
		{evenTable(5, 12), 0},
		{evenTable(5, 13), 0},
	} {
		got, ok := impl.PriceSpread(c.a)
		wantNumber(t, "PriceSpread", got, ok, c.want)
	}
}

// TestPricesOfTwoMoneys tries all rate tables of two moneys.
func TestPricesOfTwoMoneys(t *testing.T) {
	for x := 1; x <= 144; x++ {
		for y := 1; y <= 144; y++ {
			a := [][]int{{12, x}, {y, 12}}
			var want, found []int
			spread := 0
			if x*y <= 144 {
				found = withoutDivisor([]int{12, y})
			}
			if x*y == 144 {
				want = found
			}
			if x*y < 144 {
				spread = 1
			}
			of, ok := impl.PriceOf(a)
			wantList(t, "PriceOf", of, ok, want)
			find, ok := impl.PriceFind(a)
			wantList(t, "PriceFind", find, ok, found)
			got, ok := impl.PriceSpread(a)
			wantNumber(t, "PriceSpread", got, ok, spread)
		}
	}
}

func TestPricesByTelling(t *testing.T) {
	fitting, holding, neither := 0, 0, 0
	for _, c := range samplePriced() {
		fits, holds := fitsByTelling(c.a, c.p), holdsByTelling(c.a, c.p)
		if impl.PriceFits(c.a, c.p) != fits {
			t.Errorf("PriceFits(%v, %v) is not %t", c.a, c.p, fits)
		}
		if impl.PriceHolds(c.a, c.p) != holds {
			t.Errorf("PriceHolds(%v, %v) is not %t", c.a, c.p, holds)
		}
		if fits {
			fitting++
		} else if holds {
			holding++
		} else {
			neither++
		}
	}
	if fitting == 0 || holding == 0 || neither == 0 {
		t.Errorf("prices fit %d times, only hold %d times, do neither %d times", fitting, holding, neither)
	}
}

// TestPricesAroundTheLimit moves each price of those that just hold a table by one.
func TestPricesAroundTheLimit(t *testing.T) {
	for _, a := range sampleTables() {
		p, ok := impl.PriceFind(a)
		if !ok {
			continue
		}
		for _, factor := range []int{1, 2} {
			for i := range p {
				for _, by := range []int{-1, 1} {
					q := allTimes(p, factor)
					q[i] += by
					valid := q[i] >= 1
					if impl.PriceHolds(a, q) != (valid && holdsByTelling(a, q)) || impl.PriceFits(a, q) != (valid && fitsByTelling(a, q)) {
						t.Errorf("PriceHolds(%v, %v) = %t, PriceFits = %t", a, q, impl.PriceHolds(a, q), impl.PriceFits(a, q))
					}
				}
			}
		}
	}
}

func TestPriceOfAndFindByTrying(t *testing.T) {
	for _, a := range sampleTables() {
		var want, found []int
		// No other prices may fit: all that do are in proportion to this column.
		if column := withoutDivisor(firstColumn(a)); fitsByTelling(a, column) {
			want = column
		}
		if len(roundsThatGain(a)) == 0 {
			found = withoutDivisor(stepsBack(a))
		}
		of, ok := impl.PriceOf(a)
		wantList(t, "PriceOf", of, ok, want)
		find, ok := impl.PriceFind(a)
		wantList(t, "PriceFind", find, ok, found)
	}
}

// TestChangedFairTables changes each number of fair tables by one: no prices fit then.
func TestChangedFairTables(t *testing.T) {
	for _, fair := range [][][]int{twoFair, threeFair, threeEven, fiveFair, evenTable(4, 12)} {
		for i := range fair {
			for k := range fair {
				for _, by := range []int{-1, 1} {
					a := copyRows(fair)
					a[i][k] += by
					p, ok := impl.PriceOf(a)
					wantList(t, "PriceOf", p, ok, nil)
					column := withoutDivisor(firstColumn(fair))
					if impl.PriceFits(a, column) || impl.PriceHolds(a, column) != (i != k && by < 0) {
						t.Errorf("%v, %v: PriceFits = %t, PriceHolds = %t", a, column, impl.PriceFits(a, column), impl.PriceHolds(a, column))
					}
				}
			}
		}
	}
}

// TestPriceTableByTrying tries all prices of two and of three moneys up to some number, and samples.
func TestPriceTableByTrying(t *testing.T) {
	with, without := 0, 0
	for _, p := range slices.Concat(listsOver(2, 1, 60), listsOver(3, 1, 14), samplePrices()) {
		want, wantOk := tableByTrying(p)
		got, ok := impl.PriceTable(p)
		if ok != wantOk || !sameRows(got, want) {
			t.Errorf("PriceTable(%v) = %v, %t, want %v", p, got, ok, want)
		}
		if !ok {
			without++
			continue
		}
		with++
		of, ok := impl.PriceOf(got)
		if !ok || len(of) != len(p) || !inProportion(of, p) || !slices.Equal(of, withoutDivisor(of)) {
			t.Errorf("PriceOf(%v) = %v, %t, want %v without a common divisor", got, of, ok, p)
		}
	}
	if with == 0 || without == 0 {
		t.Errorf("PriceTable succeeds %d times and fails %d times", with, without)
	}
}

func TestPriceSpreadByTrying(t *testing.T) {
	for _, a := range sampleTables() {
		want := 0
		for _, ring := range roundsOver(len(a)) {
			if len(ring) == 2 && roundWorth(a, ring) < power(12, len(a)) {
				want++
			}
		}
		got, ok := impl.PriceSpread(a)
		wantNumber(t, "PriceSpread", got, ok, want)
	}
}

func TestPriceWorthByAdding(t *testing.T) {
	d := dice(7)
	for n := 2; n <= impl.MoneyMax; n++ {
		for range 200 {
			p, units := randomPrices(&d, n, 1000000), randomPrices(&d, n, 1001)
			want := 0
			for i := range p {
				units[i]--
				for range units[i] {
					want += p[i]
				}
			}
			got, ok := impl.PriceWorth(p, units)
			wantNumber(t, "PriceWorth", got, ok, want)
		}
	}
}
