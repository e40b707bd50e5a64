package tests

import (
	"math"
	"slices"
	"testing"

	"loop.example/tradecircles/impl"
)

// wantNoPriced has all functions that take item prices fail with them, for each bidder and each one of some deals.
func wantNoPriced(t *testing.T, v [][]int, p []int, deals [][]int) {
	t.Helper()
	wantSome(t, v, p, false)
	for _, d := range deals {
		wantFair(t, v, p, d, false)
	}
	for i := -1; i <= min(len(v), 6); i++ {
		wantNoGain(t, v, p, i)
	}
}

// wantNoFair has all functions of the chapter fail with zero values for lists that are no bids, with prices and deals that would be right for them if they were.
func wantNoFair(t *testing.T, v [][]int) {
	t.Helper()
	wantNoFairOf(t, v)
	n, m := min(len(v), 6), 0
	if n > 0 {
		m = min(len(v[0]), 6)
	}
	deals := [][]int{nil, slices.Repeat([]int{-1}, n), []int{0, 1, 2, 3, 4, 5}[:n], {0}, {0, 1}, {-1}, {-1, 0}}
	for _, price := range []int{0, 1, 20, 21} {
		for _, p := range [][]int{slices.Repeat([]int{price}, m), {price}, nil} {
			wantNoPriced(t, v, p, deals)
		}
	}
}

func wantNoFairOf(t *testing.T, v [][]int) {
	t.Helper()
	if got, ok := impl.FairLow(v); ok || len(got) != 0 {
		t.Errorf("FairLow(%v) = %v, %t", v, got, ok)
	}
	if got, ok := impl.FairHigh(v); ok || len(got) != 0 {
		t.Errorf("FairHigh(%v) = %v, %t", v, got, ok)
	}
	if got, ok := impl.FairPays(v); ok || len(got) != 0 {
		t.Errorf("FairPays(%v) = %v, %t", v, got, ok)
	}
	if got, ok := impl.FairCount(v); ok || got != 0 {
		t.Errorf("FairCount(%v) = %d, %t", v, got, ok)
	}
}

func TestFairOfNoBids(t *testing.T) {
	for _, v := range notBids() {
		wantNoFair(t, v)
	}
}

// TestFairLimits tries all numbers around those that there may be, and all numbers of bidders and of items.
func TestFairLimits(t *testing.T) {
	for worth := -2; worth <= 23; worth++ {
		for n := range 7 {
			for m := range 7 {
				v := evenBids(n, m, worth)
				valid := worth >= 0 && worth <= 20 && n >= 1 && n <= 4 && m >= 1 && m <= 4
				if !valid {
					wantNoFair(t, v)
					continue
				}
				wantSome(t, v, lowOf(t, v), true)
				wantSome(t, v, highOf(t, v), true)
				paysOf(t, v)
				if _, ok := impl.FairCount(v); ok != (m <= 2) {
					t.Errorf("FairCount for %d items returns %t", m, ok)
				}
			}
		}
	}
}

// TestFairCountOfItems has 1, 2 and 3 items, for each number of bidders.
func TestFairCountOfItems(t *testing.T) {
	for n := 1; n <= impl.BidMax; n++ {
		for m, want := range []int{1: 1, 2: 1, 3: 0, 4: 0} {
			if m == 0 {
				continue
			}
			got, ok := impl.FairCount(evenBids(n, m, 0))
			if got != want || ok != (m <= 2) {
				t.Errorf("FairCount for %d bidders and %d items = %d, %t", n, m, got, ok)
			}
		}
	}
}

// notPricesFor returns lists that differ from item prices in one number or in their length.
func notPricesFor(p []int) [][]int {
	all := [][]int{nil, {}, p[1:], p[:len(p)-1], append(slices.Clone(p), 0), append([]int{0}, p...), append(slices.Clone(p), 20), slices.Repeat([]int{0}, 100000)}
	for k := range p {
		for _, x := range noWorths {
			spoiled := slices.Clone(p)
			spoiled[k] = x
			all = append(all, spoiled)
		}
	}
	return all
}

// TestNoItemPrices spoils the least and the greatest prices, and other ones, for bids of which many deals are best.
func TestNoItemPrices(t *testing.T) {
	for n := 1; n <= impl.BidMax; n++ {
		for m := 1; m <= impl.BidMax; m++ {
			for _, v := range slices.Concat([][][]int{evenBids(n, m, 0), evenBids(n, m, 20)}, someBids(n, m, 1)) {
				for _, p := range [][]int{lowOf(t, v), highOf(t, v), slices.Repeat([]int{20}, m)} {
					for _, spoiled := range notPricesFor(p) {
						wantNoPriced(t, v, spoiled, [][]int{firstDeal(t, v), slices.Repeat([]int{-1}, n)})
					}
				}
			}
		}
	}
}

// TestAnyItemPrices tries all lists of up to one price too many, with numbers on both sides of each limit.
func TestAnyItemPrices(t *testing.T) {
	numbers := []int{-1, 0, 1, 3, 5, 20, 21}
	for _, v := range [][][]int{{{0}}, {{3}}, {{20}}, {{5, 3}}, {{3}, {1}}, twoEqual, threeForTwo, evenBids(3, 2, 20), {{5, 1, 3}, {0, 3, 5}}} {
		n, m := len(v), len(v[0])
		for length := range m + 2 {
			for _, p := range listsOver(length, 0, len(numbers)-1) {
				for k := range p {
					p[k] = numbers[p[k]]
				}
				if length == m && allWithin(p, 0, mostItemPrice) {
					wantFairWith(t, v, p)
				} else {
					wantNoPriced(t, v, p, dealLists[n][m])
				}
			}
		}
	}
}

// TestFairNumbersAtTheLimits has each price at and around what it may be, alone and for the last one of several items.
func TestFairNumbersAtTheLimits(t *testing.T) {
	for price := -3; price <= 24; price++ {
		valid := price >= 0 && price <= 20
		wantSome(t, [][]int{{20}}, []int{price}, valid)
		wantFair(t, [][]int{{20}}, []int{price}, []int{0}, valid)
		wantSome(t, evenBids(2, 2, 20), []int{price, price}, valid)
		for i, v := range [][][]int{{{20}}, {{0, 0, 20}}} {
			p := append(make([]int, 2*i), price)
			if valid {
				wantGain(t, v, p, 0, 20-price)
			} else {
				wantNoGain(t, v, p, 0)
			}
		}
	}
}

// TestFairWithNoDeals has lists that are no deals, with prices that are fair with some deal.
func TestFairWithNoDeals(t *testing.T) {
	for n := 1; n <= impl.BidMax; n++ {
		for m := 1; m <= impl.BidMax; m++ {
			for _, v := range slices.Concat([][][]int{evenBids(n, m, 0), evenBids(n, m, 20), withIdle(evenBids(n, m, 9), 0)}, someBids(n, m, 1)) {
				for _, p := range [][]int{lowOf(t, v), highOf(t, v)} {
					wantSome(t, v, p, true)
					for _, d := range itemLists[n][m] {
						if !dealByTelling(d) {
							wantFair(t, v, p, d, false)
						}
					}
					for _, d := range spoiledDeals(v, firstDeal(t, v)) {
						wantFair(t, v, p, d, false)
					}
				}
			}
		}
	}
}

// spoiledDeals returns lists that differ from a deal in one number, which is none of an item, or in their length.
func spoiledDeals(v [][]int, d []int) [][]int {
	m := len(v[0])
	all := [][]int{nil, {}, d[1:], d[:len(d)-1], append(slices.Clone(d), -1), append([]int{-1}, d...), append(slices.Clone(d), m-1), slices.Repeat([]int{-1}, 100000)}
	for i := range d {
		for _, x := range []int{math.MinInt, -64, -3, -2, m, m + 1, 63, 64, 1 << 32, math.MaxInt} {
			spoiled := slices.Clone(d)
			spoiled[i] = x
			all = append(all, spoiled)
		}
	}
	return all
}

func TestFairWithNoDealExamples(t *testing.T) {
	for _, c := range []struct {
		v [][]int
		p []int
		d []int
	}{
		// One item for two bidders, who both like it best.
		{[][]int{{6}, {6}}, []int{6}, []int{0, 0}},
		{[][]int{{6}, {6}}, []int{5}, []int{0, 0}},
		{evenBids(2, 2, 20), []int{20, 20}, []int{1, 1}},
		{evenBids(4, 4, 0), []int{0, 0, 0, 0}, []int{0, 1, 2, 0}},
		{evenBids(4, 4, 20), []int{0, 0, 0, 0}, []int{3, 3, 3, 3}},
		// An item that there is not.
		{[][]int{{7}}, []int{0}, []int{1}},
		{twoEqual, []int{1, 0}, []int{0, 2}},
		{evenBids(2, 1, 0), []int{0}, []int{-1, 1}},
		// A number below -1.
		{[][]int{{0}}, []int{0}, []int{-2}},
		{threeForTwo, []int{8, 4}, []int{0, -2, 1}},
		// Too few and too many numbers.
		{[][]int{{0}}, []int{0}, nil},
		{[][]int{{0}}, []int{0}, []int{-1, -1}},
		{threeForTwo, []int{8, 4}, []int{0, -1}},
		{twoEqual, []int{1, 0}, []int{0, 1, -1}},
		{evenBids(4, 4, 0), []int{0, 0, 0, 0}, []int{-1, -1, -1}},
		{evenBids(4, 4, 0), []int{0, 0, 0, 0}, []int{-1, -1, -1, -1, -1}},
	} {
		wantFair(t, c.v, c.p, c.d, false)
	}
}

// TestFairGainAtTheEnds has the first and the last bidder, who is the only one for one of them, and those one below and one above.
func TestFairGainAtTheEnds(t *testing.T) {
	d := dice(340)
	for _, v := range slices.Concat(sampleBids(1), smallBids(1), [][][]int{twoEqual, threeForTwo, twoForFour, threeCircle, fourOwn}) {
		n := len(v)
		for _, p := range tellingPrices(&d, lowOf(t, v), highOf(t, v)) {
			wantGain(t, v, p, 0, gainByTelling(v, p, 0))
			wantGain(t, v, p, n-1, gainByTelling(v, p, n-1))
			for _, i := range append([]int{-1, -2, n, n + 1}, farNumbers...) {
				wantNoGain(t, v, p, i)
			}
		}
	}
}

func callAllFair(v [][]int, p []int, d []int, i int) {
	impl.FairIn(v, p, d)
	impl.FairSome(v, p)
	impl.FairLow(v)
	impl.FairHigh(v)
	impl.FairPays(v)
	impl.FairCount(v)
	impl.FairGain(v, p, i)
}

// TestFairArgumentsStay also has any panic fail, for all kinds of arguments, valid or not.
func TestFairArgumentsStay(t *testing.T) {
	deals := [][]int{nil, {0}, {-1}, {0, 1}, {0, 0}, {2, -1, 0}, {3, 0, 1, 2}, {0, 1, 2, 3, 4}, {-2, 0}, {math.MaxInt, math.MinInt}}
	prices := [][]int{nil, {0}, {20}, {21}, {-1}, {0, 0}, {1, 0}, {20, 20}, {3, 2, 1}, {0, 5, 5, 0}, {0, 0, 0, 0, 0}, {math.MaxInt, math.MinInt}, {math.MinInt}}
	tables := slices.Concat([][][]int{nil, {}, {nil}, {{}, {}}, {{1}, {}}, {{}, {1}}, {{21}}, {{-1}, {1}}, evenBids(5, 1, 1), evenBids(1, 5, 1), {{math.MinInt, math.MaxInt}}}, sampleBids(1), [][][]int{twoEqual, threeForTwo, twoForFour, threeCircle, fourOwn})
	for _, rows := range tables {
		for _, list := range prices {
			for _, numbers := range deals {
				v, p, d := roomyRows(rows), roomy(list), roomy(numbers)
				rowsBefore, pricesBefore, dealBefore := rowsWithRoom(v), withRoom(p), withRoom(d)
				for _, i := range []int{math.MinInt, -1, 0, 3, math.MaxInt} {
					impl.FairGain(v, p, i)
				}
				impl.FairIn(v, p, d)
				if !sameRows(rowsBefore, rowsWithRoom(v)) || !slices.Equal(pricesBefore, withRoom(p)) || !slices.Equal(dealBefore, withRoom(d)) {
					t.Fatalf("the arguments %v, %v, %v have become %v, %v, %v", rows, list, numbers, v, p, d)
				}
			}
			v, p, d := roomyRows(rows), roomy(list), roomy(nil)
			rowsBefore, pricesBefore := rowsWithRoom(v), withRoom(p)
			callAllFair(v, p, d, 0)
			if !sameRows(rowsBefore, rowsWithRoom(v)) || !slices.Equal(pricesBefore, withRoom(p)) {
				t.Fatalf("the arguments %v, %v have become %v, %v", rows, list, v, p)
			}
		}
	}
}

// fairResults has all lists that the chapter returns for bids.
func fairResults(t *testing.T, v [][]int) [][]int {
	t.Helper()
	return [][]int{lowOf(t, v), highOf(t, v), paysOf(t, v)}
}

// TestFairResultsAreApart writes and appends to some results, which changes neither other ones nor the argument, and overwrites the argument, which changes no result.
func TestFairResultsAreApart(t *testing.T) {
	for _, rows := range slices.Concat(sampleBids(2), [][][]int{twoEqual, threeForTwo, twoForFour, threeCircle, fourOwn}) {
		want := copyRows(fairResults(t, rows))
		v := roomyRows(rows)
		before := rowsWithRoom(v)
		kept, written, grown := fairResults(t, v), fairResults(t, v), fairResults(t, v)
		for at := range written {
			others := copyRows(written)
			overwrite(written[at])
			others[at], written[at] = nil, nil
			if !sameRows(others, written) {
				t.Errorf("results for %v share memory with each other: %v", rows, written)
			}
			overwrite(append(grown[at], 7777))
		}
		if !sameRows(kept, want) {
			t.Errorf("results for %v have become %v with others, want %v", rows, kept, want)
		}
		if !sameRows(rowsWithRoom(v), before) {
			t.Errorf("results for %v share memory with the argument", rows)
		}
		overwriteRows(v)
		if !sameRows(kept, want) {
			t.Errorf("results for %v have become %v with the argument, want %v", rows, kept, want)
		}
	}
}
