package tests

import (
	"math"
	"slices"
	"testing"

	"loop.example/tradecircles/impl"
)

// noPriceNumbers are no prices.
var noPriceNumbers = []int{0, -1, -12, mostPrice + 1, 1 << 32, 1 << 40, 1<<63 - 1, math.MaxInt/12 + 1, math.MinInt, math.MinInt + 1}

// noPrices has lists of no number of moneys, and lists that differ from prices in one number.
func noPrices() [][]int {
	all := [][]int{nil, {}, {1}, {0}, {mostPrice}, {1, 1, 1, 1, 1, 1}, {1, 2, 3, 4, 6, 12}, slices.Repeat([]int{1}, 100000)}
	for n := 2; n <= impl.MoneyMax; n++ {
		for i := range n {
			for _, x := range noPriceNumbers {
				p := slices.Repeat([]int{1}, n)
				p[i] = x
				all = append(all, p)
			}
		}
		for _, x := range noPriceNumbers {
			all = append(all, slices.Repeat([]int{x}, n))
		}
	}
	return all
}

// wantNoHold has prices neither fit nor hold a table.
func wantNoHold(t *testing.T, a [][]int, p []int) {
	t.Helper()
	if impl.PriceFits(a, p) || impl.PriceHolds(a, p) {
		t.Errorf("PriceFits(%v, %v) = %t, PriceHolds = %t", a, p, impl.PriceFits(a, p), impl.PriceHolds(a, p))
	}
}

func wantNoWorth(t *testing.T, p []int, units []int) {
	t.Helper()
	if worth, ok := impl.PriceWorth(p, units); ok || worth != 0 {
		t.Errorf("PriceWorth(%v, %v) = %d, %t", p, units, worth, ok)
	}
}

func TestNoPrices(t *testing.T) {
	for _, p := range noPrices() {
		if impl.PriceIn(p) {
			t.Errorf("PriceIn(%v) holds", p)
		}
		for _, a := range [][][]int{evenTable(2, 12), evenTable(3, 1), evenTable(4, 12), evenTable(5, 1), evenTable(len(p)%100, 12)} {
			wantNoHold(t, a, p)
		}
		if a, ok := impl.PriceTable(p); ok || len(a) != 0 {
			t.Errorf("PriceTable(%v) = %v, %t", p, a, ok)
		}
		wantNoWorth(t, p, make([]int, len(p)))
		wantNoWorth(t, p, slices.Repeat([]int{1}, len(p)))
		wantNoWorth(t, p, nil)
		wantNoWorth(t, p, []int{1, 1})
	}
}

// TestPriceLimits has the greatest and the least prices.
func TestPriceLimits(t *testing.T) {
	for _, c := range []struct {
		x     int
		in    bool
		worth bool
	}{
		{0, false, false},
		{1, true, true},
		{1000000, true, true},
		{1000001, true, false},
		{1000000000, true, false},
		{1000000001, false, false},
	} {
		for n := 2; n <= impl.MoneyMax; n++ {
			even := slices.Repeat([]int{c.x}, n)
			if impl.PriceFits(evenTable(n, 12), even) != c.in || impl.PriceHolds(evenTable(n, 12), even) != c.in {
				t.Errorf("PriceFits or PriceHolds is not %t for %v", c.in, even)
			}
			if a, ok := impl.PriceTable(even); ok != c.in || ok && !sameRows(a, evenTable(n, 12)) {
				t.Errorf("PriceTable(%v) = %v, %t", even, a, ok)
			}
			for i := range n {
				p := slices.Repeat([]int{3}, n)
				p[i] = c.x
				if impl.PriceIn(p) != c.in {
					t.Errorf("PriceIn(%v) = %t", p, !c.in)
				}
				// No units of it are enough to make it fail.
				if worth, ok := impl.PriceWorth(p, make([]int, n)); ok != c.worth || worth != 0 {
					t.Errorf("PriceWorth(%v, no units) = %d, %t", p, worth, ok)
				}
			}
		}
	}
}

func TestUnits(t *testing.T) {
	for n := 2; n <= impl.MoneyMax; n++ {
		p := slices.Repeat([]int{5}, n)
		for length := range n + 3 {
			if length != n {
				wantNoWorth(t, p, make([]int, length))
				wantNoWorth(t, p, slices.Repeat([]int{1}, length))
			}
		}
		for i := range n {
			for _, x := range []int{-1, -1000, 1001, 1 << 32, math.MaxInt, math.MinInt} {
				units := slices.Repeat([]int{1}, n)
				units[i] = x
				wantNoWorth(t, p, units)
			}
			for _, x := range []int{0, 1, 1000} {
				units := make([]int, n)
				units[i] = x
				worth, ok := impl.PriceWorth(p, units)
				wantNumber(t, "PriceWorth", worth, ok, 5*x)
			}
		}
	}
}

func TestPricesOfNoTables(t *testing.T) {
	for _, a := range noTables() {
		p, ok := impl.PriceOf(a)
		wantList(t, "PriceOf", p, ok, nil)
		p, ok = impl.PriceFind(a)
		wantList(t, "PriceFind", p, ok, nil)
		if count, ok := impl.PriceSpread(a); ok || count != 0 {
			t.Errorf("PriceSpread(%v) = %d, %t", a, count, ok)
		}
		wantNoHold(t, a, nil)
		for n := 1; n <= impl.MoneyMax+1; n++ {
			wantNoHold(t, a, slices.Repeat([]int{1}, n))
		}
		if len(a) < 100 {
			wantNoHold(t, a, slices.Repeat([]int{1}, len(a)))
			wantNoHold(t, a, slices.Repeat([]int{mostPrice}, len(a)))
		}
	}
}

// TestSpoiledFits has prices that fit all of a table but what makes it none.
func TestSpoiledFits(t *testing.T) {
	wantNoHold(t, [][]int{{12, 145}, {1, 12}}, []int{145, 12})
	wantNoHold(t, [][]int{{12, 0}, {1, 12}}, []int{1, 1})
	wantNoHold(t, [][]int{{12, -1}, {-1, 12}}, []int{1, 1})
	wantNoHold(t, [][]int{{11, 1}, {1, 12}}, []int{1, 1})
	wantNoHold(t, [][]int{{12, 12}, {12}}, []int{1, 1})
}

func TestPricesForOtherMoneys(t *testing.T) {
	for n := 2; n <= impl.MoneyMax; n++ {
		for count := range impl.MoneyMax + 2 {
			if count != n {
				wantNoHold(t, evenTable(n, 12), slices.Repeat([]int{1}, count))
				wantNoHold(t, evenTable(n, 1), slices.Repeat([]int{mostPrice}, count))
			}
		}
	}
	wantNoHold(t, fiveFair, []int{1, 2, 3, 4})
	wantNoHold(t, threeFair, []int{1, 2})
	wantNoHold(t, threeFair, []int{1, 2, 3, 4})
}

func callAllPrices(a [][]int, p []int, units []int) {
	impl.PriceIn(p)
	impl.PriceFits(a, p)
	impl.PriceHolds(a, p)
	impl.PriceOf(a)
	impl.PriceFind(a)
	impl.PriceTable(p)
	impl.PriceWorth(p, units)
	impl.PriceSpread(a)
}

// TestPriceArgumentsStay also has any panic fail, for all kinds of arguments, valid or not.
func TestPriceArgumentsStay(t *testing.T) {
	lists := [][]int{nil, {1}, {2, 1}, {12, 6}, {0, 0}, {-1, 5}, {1, 2, 3}, {6, 5, 5}, {1, 2, 3, 4, 6}, {2, 4, 6, 8, 12}, {1, 1, 1, 1, 1, 1}, {mostPrice, mostPrice + 1}, {math.MaxInt, math.MinInt}}
	units := [][]int{nil, {0, 0}, {1000, 3}, {1, 2, 3}, {-1, 1001}, {5, 4, 3, 2, 1}, {math.MinInt, math.MaxInt}}
	tables := append(noTables(), twoGain, twoFair, twoLose, threeMix, threeFair, detour, fiveMix, fiveFair)
	for _, rows := range tables {
		for i, numbers := range lists {
			a, p, counts := roomyRows(rows), roomy(numbers), roomy(units[i%len(units)])
			rowsBefore, pricesBefore, countsBefore := rowsWithRoom(a), withRoom(p), withRoom(counts)
			callAllPrices(a, p, counts)
			if !sameRows(rowsBefore, rowsWithRoom(a)) || !slices.Equal(pricesBefore, withRoom(p)) || !slices.Equal(countsBefore, withRoom(counts)) {
				t.Fatalf("the arguments %v, %v, %v have become %v, %v, %v", rows, numbers, units[i%len(units)], a, p, counts)
			}
		}
	}
	for _, p := range lists {
		for _, counts := range units {
			callAllPrices(twoFair, p, counts)
		}
	}
}

// TestPriceResultsAreApart overwrites results, what stands behind their ends, and then the arguments.
func TestPriceResultsAreApart(t *testing.T) {
	for _, prices := range [][]int{{2, 1}, {1, 1}, {2, 4, 6}, {1, 2, 3, 4, 6}} {
		p := roomy(prices)
		first, _ := impl.PriceTable(p)
		table, _ := impl.PriceTable(p)
		before := copyRows(table)
		a := roomyRows(before)
		of, _ := impl.PriceOf(a)
		ofAgain, _ := impl.PriceOf(a)
		find, _ := impl.PriceFind(a)
		findAgain, _ := impl.PriceFind(a)
		want := withoutDivisor(prices)
		pricesBefore, rowsBefore := withRoom(p), rowsWithRoom(a)
		overwriteRows(first)
		overwrite(of)
		overwrite(find)
		if !slices.Equal(withRoom(p), pricesBefore) || !sameRows(rowsWithRoom(a), rowsBefore) {
			t.Errorf("results for %v share memory with the arguments", prices)
		}
		overwrite(p)
		overwriteRows(a)
		if !sameRows(table, before) || !slices.Equal(ofAgain, want) || !slices.Equal(findAgain, want) {
			t.Errorf("results for %v share memory: %v, %v, %v", prices, table, ofAgain, findAgain)
		}
		if again, ok := impl.PriceTable(prices); !ok || !sameRows(again, before) {
			t.Errorf("PriceTable(%v) has become %v", prices, again)
		}
	}
}

func TestRowsOfPriceTablesAreApart(t *testing.T) {
	for _, p := range [][]int{{2, 1}, {1, 2, 3}, {1, 2, 3, 4, 6}} {
		a, _ := impl.PriceTable(p)
		for i := range a {
			before := copyRows(a)
			overwrite(a[i])
			before[i] = a[i]
			if !sameRows(before, a) {
				t.Errorf("the row %d of PriceTable(%v) shares memory with another row", i, p)
			}
		}
	}
}
