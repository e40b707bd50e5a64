package tests

import (
	"math"
	"slices"
	"testing"

	"loop.example/tradecircles/impl"
)

// noWorths are worth to nobody.
var noWorths = []int{-1, -2, -20, -21, 21, 22, 40, 144, 1 << 32, 1<<32 + 5, math.MaxInt, math.MinInt, math.MinInt + 5}

// spoiledBids returns lists that differ from bids in one number or in the length of one row.
func spoiledBids(v [][]int) [][][]int {
	var all [][][]int
	for i := range v {
		for k := range v[i] {
			for _, x := range noWorths {
				b := copyRows(v)
				b[i][k] = x
				all = append(all, b)
			}
		}
		none, shorter, longer := copyRows(v), copyRows(v), copyRows(v)
		none[i] = nil
		all = append(all, none)
		// Alone, a row that is shorter or longer by one may be bids.
		if len(v) > 1 {
			shorter[i] = shorter[i][1:]
			longer[i] = append(longer[i], 1)
			all = append(all, shorter, longer)
		}
	}
	return all
}

// notBids has no list, too many bidders, rows of no items, of different lengths and of too many items, and bids that are spoiled.
func notBids() [][][]int {
	all := [][][]int{nil, {}, {nil}, {{}}, {{}, {}}, {nil, nil, nil, nil}, {{}, {1}}, {{1}, {}}, {{1}, nil}, {{1}, {1, 2}}, {{1, 2}, {1}}, {{1, 2, 3}, {1, 2, 3}, {1, 2}}}
	for n := 1; n <= impl.BidMax; n++ {
		all = append(all, evenBids(n, 0, 1), evenBids(n, 5, 1), evenBids(5, n, 1), evenBids(n, 6, 0), evenBids(6, n, 0), evenBids(n, 5, 20), evenBids(5, n, 20))
		for m := 1; m <= impl.BidMax; m++ {
			all = append(all, spoiledBids(evenBids(n, m, 1))...)
			all = append(all, evenBids(n, m, -1), evenBids(n, m, 21))
		}
	}
	all = append(all, evenBids(5, 5, 1), evenBids(64, 1, 1), evenBids(1, 64, 1), evenBids(1, 100000, 0), evenBids(100000, 1, 0), make([][]int, 100000))
	for _, v := range [][][]int{twoEqual, threeForTwo, twoForFour, threeCircle, fourOwn} {
		all = append(all, spoiledBids(v)...)
	}
	return all
}

// wantNoNumbers has all functions that take a bidder or an item fail with zero values for it.
func wantNoNumbers(t *testing.T, v [][]int, x int) {
	t.Helper()
	wantNoBidder(t, v, x)
	wantNoItem(t, v, x)
}

func wantNoBidder(t *testing.T, v [][]int, i int) {
	t.Helper()
	if got, ok := impl.BidWithout(v, i); ok || got != 0 {
		t.Errorf("BidWithout(%v, %d) = %d, %t", v, i, got, ok)
	}
}

func wantNoItem(t *testing.T, v [][]int, k int) {
	t.Helper()
	if got, ok := impl.BidLess(v, k); ok || got != 0 {
		t.Errorf("BidLess(%v, %d) = %d, %t", v, k, got, ok)
	}
	if got, ok := impl.BidTwice(v, k); ok || got != 0 {
		t.Errorf("BidTwice(%v, %d) = %d, %t", v, k, got, ok)
	}
}

// wantNoBids has all functions of the chapter fail with zero values.
func wantNoBids(t *testing.T, v [][]int) {
	t.Helper()
	if impl.BidIn(v) {
		t.Errorf("BidIn(%v) holds", v)
	}
	if got, ok := impl.BidBest(v); ok || got != 0 {
		t.Errorf("BidBest(%v) = %d, %t", v, got, ok)
	}
	if got, ok := impl.BidFirst(v); ok || len(got) != 0 {
		t.Errorf("BidFirst(%v) = %v, %t", v, got, ok)
	}
	if got, ok := impl.BidDeals(v); ok || got != 0 {
		t.Errorf("BidDeals(%v) = %d, %t", v, got, ok)
	}
	for x := -1; x <= 5; x++ {
		wantNoNumbers(t, v, x)
	}
	for n := range 6 {
		wantNoDeal(t, v, slices.Repeat([]int{-1}, n))
		wantNoDeal(t, v, []int{0, 1, 2, 3, 4}[:min(n, 5)])
	}
}

func TestNoBids(t *testing.T) {
	for _, v := range notBids() {
		wantNoBids(t, v)
	}
}

// TestBidLimits tries all numbers around those that there may be, and all numbers of bidders and of items.
func TestBidLimits(t *testing.T) {
	for worth := -3; worth <= 24; worth++ {
		for n := range 7 {
			for m := range 7 {
				v := evenBids(n, m, worth)
				want := worth >= 0 && worth <= 20 && n >= 1 && n <= 4 && m >= 1 && m <= 4
				if got := impl.BidIn(v); got != want {
					t.Errorf("BidIn for %d bidders and %d items with %d = %t", n, m, worth, got)
				}
				if got, ok := impl.BidBest(v); ok != want || ok && got != worth*min(n, m) {
					t.Errorf("BidBest for %d bidders and %d items with %d = %d, %t", n, m, worth, got, ok)
				}
			}
		}
	}
}

// TestAnyBids tries all tables of up to two rows and columns with numbers on both sides of each limit.
func TestAnyBids(t *testing.T) {
	numbers := []int{-1, 0, 20, 21}
	for n := 1; n <= 2; n++ {
		for m := 1; m <= 2; m++ {
			for _, v := range everyBids(n, m, len(numbers)-1) {
				valid := true
				for i := range v {
					for k := range v[i] {
						v[i][k] = numbers[v[i][k]]
					}
					valid = valid && allWithin(v[i], 0, mostWorth)
				}
				if valid {
					wantBids(t, v, answersByTelling(v))
				} else {
					wantNoBids(t, v)
				}
			}
		}
	}
}

// TestNoDealExamples has lists that are no deals of bids.
func TestNoDealExamples(t *testing.T) {
	for _, c := range []struct {
		v [][]int
		d []int
	}{
		// One item for two bidders.
		{twoEqual, []int{0, 0}},
		{twoEqual, []int{1, 1}},
		{threeForTwo, []int{1, -1, 1}},
		{threeForTwo, []int{0, 1, 0}},
		{fourOwn, []int{0, 1, 2, 0}},
		{fourOwn, []int{3, -1, -1, 3}},
		{evenBids(2, 2, 0), []int{0, 0}},
		// An item that there is not.
		{twoEqual, []int{0, 2}},
		{twoEqual, []int{2, 0}},
		{threeForTwo, []int{0, -1, 2}},
		{twoForFour, []int{4, -1}},
		{[][]int{{7}}, []int{1}},
		{evenBids(1, 1, 0), []int{1}},
		// A number below -1.
		{twoEqual, []int{-2, 0}},
		{twoEqual, []int{0, -2}},
		{twoEqual, []int{-2, -2}},
		{[][]int{{7}}, []int{-2}},
		{evenBids(1, 1, 0), []int{math.MinInt}},
		// Too few and too many numbers.
		{twoEqual, nil},
		{twoEqual, []int{}},
		{twoEqual, []int{0}},
		{twoEqual, []int{-1}},
		{twoEqual, []int{0, 1, -1}},
		{twoEqual, []int{-1, -1, -1}},
		{[][]int{{7}}, nil},
		{[][]int{{7}}, []int{0, -1}},
		{evenBids(4, 4, 0), []int{-1, -1, -1, -1, -1}},
		{evenBids(4, 4, 0), []int{-1, -1, -1}},
		{fourOwn, []int{0, 1, 2, 3, 4}},
		{fourOwn, slices.Repeat([]int{-1}, 100000)},
	} {
		wantNoDeal(t, c.v, c.d)
	}
}

// TestSpoiledDeals spoils one number of each deal.
func TestSpoiledDeals(t *testing.T) {
	for n := 1; n <= impl.BidMax; n++ {
		for m := 1; m <= impl.BidMax; m++ {
			for _, v := range [][][]int{evenBids(n, m, 0), evenBids(n, m, 20)} {
				for _, d := range itemLists[n][m] {
					if !dealByTelling(d) {
						wantNoDeal(t, v, d)
						continue
					}
					for i := range d {
						for _, x := range []int{math.MinInt, -64, -2, m, m + 1, 63, 64, 1 << 32, math.MaxInt} {
							spoiled := slices.Clone(d)
							spoiled[i] = x
							wantNoDeal(t, v, spoiled)
						}
					}
					wantNoDeal(t, v, d[1:])
					wantNoDeal(t, v, d[:n-1])
					wantNoDeal(t, v, append(slices.Clone(d), -1))
				}
			}
		}
	}
}

// TestAnyDeals tries all lists of up to one number too many, with numbers that are no items on both sides.
func TestAnyDeals(t *testing.T) {
	for _, v := range [][][]int{{{3}}, {{3, 2}}, {{3}, {2}}, twoEqual, threeForTwo, {{1, 2, 3}, {3, 2, 1}}, evenBids(2, 2, 0), evenBids(3, 3, 1)} {
		n, m := len(v), len(v[0])
		best, _ := greatestLists(v, dealByTelling)
		for length := range n + 2 {
			for _, list := range listsOver(length, -2, m) {
				if length == n && allWithin(list, -1, m-1) && dealByTelling(list) {
					wantDeal(t, v, list, totalByTelling(v, list), totalByTelling(v, list) == best)
				} else {
					wantNoDeal(t, v, list)
				}
			}
		}
	}
}

// TestBiddersAndItemsAtTheEnds has the first and the last bidder and item, which are the only ones for one of them, and those one below and one above.
func TestBiddersAndItemsAtTheEnds(t *testing.T) {
	for _, v := range slices.Concat(sampleBids(1), smallBids(1), [][][]int{twoEqual, threeForTwo, twoForFour, threeCircle, fourOwn}) {
		n, m := len(v), len(v[0])
		want := answersByTelling(v)
		for _, i := range []int{0, n - 1} {
			got, ok := impl.BidWithout(v, i)
			wantNumber(t, "BidWithout", got, ok, want.without[i])
		}
		for _, k := range []int{0, m - 1} {
			got, ok := impl.BidLess(v, k)
			wantNumber(t, "BidLess", got, ok, want.less[k])
			got, ok = impl.BidTwice(v, k)
			wantNumber(t, "BidTwice", got, ok, want.twice[k])
		}
		wantNoBidder(t, v, n)
		wantNoItem(t, v, m)
		for _, x := range append([]int{-1, -2}, farNumbers...) {
			wantNoNumbers(t, v, x)
		}
	}
}

func callAllBids(v [][]int, d []int, x int) {
	impl.BidIn(v)
	impl.BidTotal(v, d)
	impl.BidBest(v)
	impl.BidFirst(v)
	impl.BidIs(v, d)
	impl.BidWithout(v, x)
	impl.BidLess(v, x)
	impl.BidTwice(v, x)
	impl.BidDeals(v)
}

// TestBidArgumentsStay also has any panic fail, for all kinds of arguments, valid or not.
func TestBidArgumentsStay(t *testing.T) {
	lists := [][]int{nil, {0}, {-1}, {0, 1}, {1, 0}, {0, 0}, {-1, -1}, {2, -1, 0}, {3, 0, 1, 2}, {0, -1, -1, 3}, {0, 1, 2, 3, 4}, {-2, 0}, {math.MaxInt, math.MinInt}}
	tables := slices.Concat([][][]int{nil, {}, {nil}, {{}, {}}, {{1}, {}}, {{}, {1}}, {{21}}, {{-1}, {1}}, evenBids(5, 1, 1), evenBids(1, 5, 1), {{math.MinInt, math.MaxInt}}}, sampleBids(1), [][][]int{twoEqual, threeForTwo, twoForFour, threeCircle, fourOwn})
	for _, rows := range tables {
		for _, numbers := range lists {
			v, d := roomyRows(rows), roomy(numbers)
			rowsBefore, listBefore := rowsWithRoom(v), withRoom(d)
			for _, x := range []int{math.MinInt, -1, 0, 1, 3, 4, math.MaxInt} {
				callAllBids(v, d, x)
			}
			if !sameRows(rowsBefore, rowsWithRoom(v)) || !slices.Equal(listBefore, withRoom(d)) {
				t.Fatalf("the arguments %v, %v have become %v, %v", rows, numbers, v, d)
			}
		}
	}
}

// TestBidFirstIsApart writes and appends to one result, which changes neither a second one nor the argument, and overwrites the argument, which changes no result.
func TestBidFirstIsApart(t *testing.T) {
	for _, rows := range slices.Concat(sampleBids(2), [][][]int{twoEqual, threeForTwo, twoForFour, threeCircle, fourOwn}) {
		want := answersByTelling(rows).first
		v := roomyRows(rows)
		before := rowsWithRoom(v)
		first, second, third := firstDeal(t, v), firstDeal(t, v), firstDeal(t, v)
		overwrite(first)
		third = append(third, 7777)
		overwrite(third)
		if !slices.Equal(second, want) {
			t.Errorf("BidFirst(%v) has become %v with another result, want %v", rows, second, want)
		}
		if !sameRows(rowsWithRoom(v), before) {
			t.Errorf("BidFirst(%v) shares memory with the argument", rows)
		}
		overwriteRows(v)
		if !slices.Equal(second, want) {
			t.Errorf("BidFirst(%v) has become %v with the argument, want %v", rows, second, want)
		}
	}
}
