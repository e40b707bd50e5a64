package tests

import (
	"slices"
	"testing"

	"loop.example/tradecircles/impl"
)

func TestFairExamples(t *testing.T) {
	for _, c := range []struct {
		v    [][]int
		want fairAnswers
	}{
		// One bidder with one item: nobody else wants it, so each price up to what it is worth is fair.
		{[][]int{{7}}, fairAnswers{[]int{0}, []int{7}, []int{0}, 8}},
		{[][]int{{20}}, fairAnswers{[]int{0}, []int{20}, []int{0}, 21}},
		{[][]int{{1}}, fairAnswers{[]int{0}, []int{1}, []int{0}, 2}},
		{[][]int{{0}}, fairAnswers{[]int{0}, []int{0}, []int{0}, 1}},
		// One bidder with several items: nobody gets the others, so that these have the price 0.
		{[][]int{{9, 4}}, fairAnswers{[]int{0, 0}, []int{5, 0}, []int{0}, 6}},
		{[][]int{{4, 9}}, fairAnswers{[]int{0, 0}, []int{0, 5}, []int{0}, 6}},
		{[][]int{{6, 6}}, fairAnswers{[]int{0, 0}, []int{0, 0}, []int{0}, 1}},
		{[][]int{{6, 0}}, fairAnswers{[]int{0, 0}, []int{6, 0}, []int{0}, 7}},
		{[][]int{{3, 9, 4}}, fairAnswers{[]int{0, 0, 0}, []int{0, 5, 0}, []int{0}, noCount}},
		{[][]int{{0, 0, 0, 1}}, fairAnswers{[]int{0, 0, 0, 0}, []int{0, 0, 0, 1}, []int{0}, noCount}},
		// Several bidders with one item: it costs at least what it is worth to the second one.
		{[][]int{{4}, {9}, {6}}, fairAnswers{[]int{6}, []int{9}, []int{0, 6, 0}, 4}},
		{[][]int{{6}, {6}}, fairAnswers{[]int{6}, []int{6}, []int{0, 6}, 1}},
		{[][]int{{6}, {6}, {6}, {6}}, fairAnswers{[]int{6}, []int{6}, []int{0, 0, 0, 6}, 1}},
		{[][]int{{20}, {0}}, fairAnswers{[]int{0}, []int{20}, []int{0, 0}, 21}},
		// As many bidders as items.
		{twoEqual, fairAnswers{[]int{1, 0}, []int{4, 3}, []int{1, 0}, 4}},
		{[][]int{{4, 3}, {5, 4}}, fairAnswers{[]int{1, 0}, []int{4, 3}, []int{1, 0}, 4}},
		{[][]int{{8, 0}, {0, 5}}, fairAnswers{[]int{0, 0}, []int{8, 5}, []int{0, 0}, 54}},
		{threeCircle, fairAnswers{[]int{0, 0, 0}, []int{5, 5, 5}, []int{0, 0, 0}, noCount}},
		{fourOwn, fairAnswers{[]int{0, 0, 0, 0}, []int{9, 8, 7, 6}, []int{0, 0, 0, 0}, noCount}},
		// More bidders than items, and more items than bidders.
		{threeForTwo, fairAnswers{[]int{8, 4}, []int{9, 5}, []int{8, 0, 4}, 3}},
		{twoForFour, fairAnswers{[]int{0, 0, 0, 0}, []int{0, 2, 2, 0}, []int{0, 0}, noCount}},
		// A bidder to whom all is worth 0.
		{[][]int{{0, 0}, {3, 5}}, fairAnswers{[]int{0, 0}, []int{0, 2}, []int{0, 0}, 3}},
		{[][]int{{3, 5}, {0, 0}}, fairAnswers{[]int{0, 0}, []int{0, 2}, []int{0, 0}, 3}},
		// An item that is worth 0 to all.
		{[][]int{{4, 0}, {6, 0}}, fairAnswers{[]int{4, 0}, []int{6, 0}, []int{0, 4}, 3}},
		{[][]int{{0, 4}, {0, 6}}, fairAnswers{[]int{0, 4}, []int{0, 6}, []int{0, 4}, 3}},
		// All numbers 0, and all numbers 20.
		{evenBids(2, 2, 0), fairAnswers{[]int{0, 0}, []int{0, 0}, []int{0, 0}, 1}},
		{evenBids(4, 4, 0), fairAnswers{[]int{0, 0, 0, 0}, []int{0, 0, 0, 0}, []int{0, 0, 0, 0}, noCount}},
		{evenBids(2, 2, 20), fairAnswers{[]int{0, 0}, []int{20, 20}, []int{0, 0}, 21}},
		{evenBids(4, 4, 20), fairAnswers{[]int{0, 0, 0, 0}, []int{20, 20, 20, 20}, []int{0, 0, 0, 0}, noCount}},
		{evenBids(4, 2, 20), fairAnswers{[]int{20, 20}, []int{20, 20}, []int{0, 0, 20, 20}, 1}},
		{evenBids(2, 4, 20), fairAnswers{[]int{0, 0, 0, 0}, []int{0, 0, 0, 0}, []int{0, 0}, noCount}},
		{evenBids(1, 2, 20), fairAnswers{[]int{0, 0}, []int{0, 0}, []int{0}, 1}},
	} {
		wantFairOf(t, c.v, c.want)
	}
}

// TestFairOfEvenBids has the same number everywhere: items cost 0 if there are too many, just the number if there are too few, and anything up to it, but all of them the same, otherwise.
func TestFairOfEvenBids(t *testing.T) {
	for n := 1; n <= impl.BidMax; n++ {
		for m := 1; m <= impl.BidMax; m++ {
			for _, worth := range []int{0, 1, 7, 20} {
				low, high := 0, 0
				if n > m {
					low = worth
				}
				if n >= m {
					high = worth
				}
				count := high - low + 1
				if m > 2 {
					count = noCount
				}
				pays := make([]int, n)
				for i := range pays {
					if n > m && i >= n-m {
						pays[i] = worth
					}
				}
				v := evenBids(n, m, worth)
				wantFairOf(t, v, fairAnswers{slices.Repeat([]int{low}, m), slices.Repeat([]int{high}, m), pays, count})
				for price := range mostItemPrice + 1 {
					wantSome(t, v, slices.Repeat([]int{price}, m), price >= low && price <= high)
				}
			}
		}
	}
}

func TestFairInExamples(t *testing.T) {
	for _, c := range []struct {
		v    [][]int
		p    []int
		d    []int
		fair bool
	}{
		// Up to just what the item is worth; at this price the bidder may also get nothing, but then nobody gets an item with a price.
		{[][]int{{7}}, []int{0}, []int{0}, true},
		{[][]int{{7}}, []int{7}, []int{0}, true},
		{[][]int{{7}}, []int{8}, []int{0}, false},
		{[][]int{{7}}, []int{7}, []int{-1}, false},
		{[][]int{{7}}, []int{8}, []int{-1}, false},
		{[][]int{{7}}, []int{0}, []int{-1}, false},
		{[][]int{{0}}, []int{0}, []int{0}, true},
		{[][]int{{0}}, []int{0}, []int{-1}, true},
		{[][]int{{0}}, []int{1}, []int{-1}, false},
		{[][]int{{0}}, []int{1}, []int{0}, false},
		{[][]int{{20}}, []int{20}, []int{0}, true},
		// Both deals are best, so prices are fair with both or with none.
		{twoEqual, []int{1, 0}, []int{0, 1}, true},
		{twoEqual, []int{1, 0}, []int{1, 0}, true},
		{twoEqual, []int{4, 3}, []int{0, 1}, true},
		{twoEqual, []int{4, 3}, []int{1, 0}, true},
		{twoEqual, []int{3, 2}, []int{1, 0}, true},
		{twoEqual, []int{1, 0}, []int{0, -1}, false},
		{twoEqual, []int{1, 0}, []int{-1, 1}, false},
		{twoEqual, []int{1, 0}, []int{-1, -1}, false},
		{twoEqual, []int{0, 0}, []int{0, 1}, false},
		{twoEqual, []int{0, 0}, []int{1, 0}, false},
		{twoEqual, []int{5, 4}, []int{0, 1}, false},
		{twoEqual, []int{4, 0}, []int{0, 1}, false},
		{twoEqual, []int{1, 3}, []int{0, 1}, false},
		{twoEqual, []int{20, 20}, []int{0, 1}, false},
		{twoEqual, []int{20, 20}, []int{-1, -1}, false},
		// One who gets nothing likes no item better, and just as well at the least prices.
		{threeForTwo, []int{8, 4}, []int{0, -1, 1}, true},
		{threeForTwo, []int{9, 5}, []int{0, -1, 1}, true},
		{threeForTwo, []int{8, 5}, []int{0, -1, 1}, true},
		{threeForTwo, []int{9, 4}, []int{0, -1, 1}, false},
		{threeForTwo, []int{7, 4}, []int{0, -1, 1}, false},
		{threeForTwo, []int{8, 3}, []int{0, -1, 1}, false},
		{threeForTwo, []int{8, 6}, []int{0, -1, 1}, false},
		{threeForTwo, []int{8, 4}, []int{1, 0, -1}, false},
		{threeForTwo, []int{8, 4}, []int{-1, 0, 1}, false},
		{threeForTwo, []int{8, 0}, []int{0, -1, -1}, false},
		// Items that nobody gets, with the price 0 and with a greater one.
		{[][]int{{9, 4}}, []int{0, 0}, []int{0}, true},
		{[][]int{{9, 4}}, []int{5, 0}, []int{0}, true},
		{[][]int{{9, 4}}, []int{5, 0}, []int{1}, false},
		{[][]int{{9, 4}}, []int{6, 0}, []int{0}, false},
		{[][]int{{9, 4}}, []int{0, 1}, []int{0}, false},
		{[][]int{{9, 4}}, []int{5, 1}, []int{0}, false},
		{[][]int{{9, 4}}, []int{0, 20}, []int{0}, false},
		{twoForFour, []int{0, 0, 0, 0}, []int{2, 1}, true},
		{twoForFour, []int{0, 2, 2, 0}, []int{2, 1}, true},
		{twoForFour, []int{1, 2, 2, 0}, []int{2, 1}, false},
		{twoForFour, []int{0, 2, 2, 1}, []int{2, 1}, false},
		{twoForFour, []int{0, 3, 2, 0}, []int{2, 1}, false},
		{twoForFour, []int{0, 2, 3, 0}, []int{2, 1}, false},
		{[][]int{{4, 0}, {6, 0}}, []int{4, 0}, []int{-1, 0}, true},
		{[][]int{{4, 0}, {6, 0}}, []int{4, 0}, []int{1, 0}, true},
		{[][]int{{4, 0}, {6, 0}}, []int{4, 1}, []int{-1, 0}, false},
		{[][]int{{4, 0}, {6, 0}}, []int{4, 1}, []int{1, 0}, false},
		// Bidders to whom an item is worth just its price.
		{[][]int{{6}, {6}}, []int{6}, []int{-1, 0}, true},
		{[][]int{{6}, {6}}, []int{6}, []int{0, -1}, true},
		{[][]int{{6}, {6}}, []int{6}, []int{-1, -1}, false},
		{[][]int{{6}, {6}}, []int{5}, []int{-1, 0}, false},
		{[][]int{{6}, {6}}, []int{7}, []int{-1, 0}, false},
		{evenBids(4, 4, 20), []int{20, 20, 20, 20}, []int{3, 1, 0, 2}, true},
		{evenBids(4, 4, 20), []int{20, 20, 20, 20}, []int{3, 1, 0, -1}, false},
		{evenBids(4, 4, 20), []int{13, 13, 13, 13}, []int{0, 1, 2, 3}, true},
		{evenBids(4, 4, 20), []int{13, 13, 12, 13}, []int{0, 1, 2, 3}, false},
		{evenBids(4, 4, 0), []int{0, 0, 0, 0}, []int{-1, 2, -1, 0}, true},
		{evenBids(4, 4, 0), []int{0, 0, 0, 1}, []int{-1, 2, -1, 3}, false},
	} {
		wantFair(t, c.v, c.p, c.d, c.fair)
		if c.fair {
			wantSome(t, c.v, c.p, true)
		}
	}
}

func TestFairGainExamples(t *testing.T) {
	for _, c := range []struct {
		v     [][]int
		p     []int
		gains []int
	}{
		{[][]int{{7}}, []int{0}, []int{7}},
		{[][]int{{7}}, []int{6}, []int{1}},
		{[][]int{{7}}, []int{7}, []int{0}},
		{[][]int{{7}}, []int{20}, []int{0}},
		{[][]int{{20, 20}}, []int{20, 0}, []int{20}},
		{twoEqual, []int{0, 0}, []int{5, 4}},
		{twoEqual, []int{1, 0}, []int{4, 3}},
		{twoEqual, []int{5, 0}, []int{4, 3}},
		{twoEqual, []int{20, 20}, []int{0, 0}},
		// No prices that are fair with any deal.
		{threeForTwo, []int{0, 0}, []int{10, 8, 5}},
		{threeForTwo, []int{8, 4}, []int{2, 0, 1}},
		{threeForTwo, []int{7, 5}, []int{3, 1, 0}},
		{twoForFour, []int{0, 2, 2, 0}, []int{5, 5}},
		{twoForFour, []int{20, 20, 20, 0}, []int{1, 5}},
		{fourOwn, []int{9, 7, 0, 20}, []int{0, 1, 7, 0}},
	} {
		for i, gain := range c.gains {
			wantGain(t, c.v, c.p, i, gain)
		}
	}
}

// TestFairOfSmallNumbers has all bids of small numbers for up to two bidders and items, with all item prices and all deals.
func TestFairOfSmallNumbers(t *testing.T) {
	for _, v := range smallBids(3) {
		wantFairOf(t, v, fairAnswersBySearch(v))
		for _, p := range itemPriceLists[len(v[0])] {
			wantFairWith(t, v, p)
		}
	}
	for _, v := range slices.Concat(smallBids(4), everyBids(1, 2, 8), everyBids(2, 1, 8)) {
		wantFairOf(t, v, fairAnswersBySearch(v))
	}
}

// fairSampleCount has fewer samples where there are more item prices to try.
func fairSampleCount(m int) int {
	return [...]int{1: 20, 2: 20, 3: 10, 4: 3}[m]
}

// TestFairByTelling has samples for each number of bidders and each one of items.
func TestFairByTelling(t *testing.T) {
	d := dice(300)
	for n := 1; n <= impl.BidMax; n++ {
		for m := 1; m <= impl.BidMax; m++ {
			for _, v := range slices.Concat(someBids(n, m, fairSampleCount(m)), someWishedBids(n, m)) {
				want := fairAnswersBySearch(v)
				wantFairOf(t, v, want)
				for _, p := range tellingPrices(&d, want.low, want.high) {
					wantFairWith(t, v, p)
				}
			}
		}
	}
}

// someWishedBids has bids by which each bidder wants the same items most, so that all of them cost something if there are fewer than bidders, and bids of 20 or 0.
func someWishedBids(n int, m int) [][][]int {
	d := dice(320 + 10*n + m)
	alike, extreme := evenBids(n, m, 0), randomBids(&d, n, m, 1)
	for i := range n {
		for k := range m {
			alike[i][k] = 12 - 2*k + d.below(3)
			extreme[i][k] *= mostWorth
		}
	}
	return [][][]int{alike, extreme}
}

// TestFairWithAllPrices holds FairSome against all item prices that are fair, for three items.
func TestFairWithAllPrices(t *testing.T) {
	for n := 1; n <= impl.BidMax; n++ {
		v := someWishedBids(n, 3)[0]
		for _, p := range itemPriceLists[3] {
			wantSome(t, v, p, someFairByTelling(v, p))
		}
	}
}

// TestFairWithEachBestDeal has the least and the greatest prices, and those between that are fair with one best deal, fair with each best one and with no other one.
func TestFairWithEachBestDeal(t *testing.T) {
	all, several, dear := 0, 0, 0
	for _, v := range slices.Concat(smallBids(3), sampleBids(12)) {
		low, high := lowOf(t, v), highOf(t, v)
		total, best := greatestLists(v, dealByTelling)
		prices := [][]int{low, high}
		if between := betweenPrices(low, high); impl.FairIn(v, between, best[0]) {
			prices = append(prices, between)
		}
		for _, p := range prices {
			for _, d := range dealLists[len(v)][len(v[0])] {
				wantFair(t, v, p, d, totalByTelling(v, d) == total)
			}
		}
		all++
		if len(best) > 1 {
			several++
		}
		if sumOf(low) > 0 {
			dear++
		}
	}
	wantBoth(t, "several deals are best", several, all)
	wantBoth(t, "the least prices are not all 0", dear, all)
}

// TestFairPricesBeyondLimits has no prices fair that are below a least one or above a greatest one, whatever the others are.
func TestFairPricesBeyondLimits(t *testing.T) {
	d := dice(350)
	below, above := 0, 0
	for _, v := range slices.Concat(smallBids(3), sampleBids(12)) {
		low, high := lowOf(t, v), highOf(t, v)
		for _, inside := range [][]int{low, high, betweenPrices(low, high), randomBids(&d, 1, len(low), mostItemPrice)[0]} {
			for k := range low {
				p := slices.Clone(inside)
				if p[k] = low[k] - 1; p[k] >= 0 {
					below++
					wantSome(t, v, p, false)
				}
				if p[k] = high[k] + 1; p[k] <= mostItemPrice {
					above++
					wantSome(t, v, p, false)
				}
			}
		}
	}
	if below == 0 || above == 0 {
		t.Errorf("%d prices are below a least one, %d above a greatest one", below, above)
	}
}

// TestFairPricesOfWhatNobodyGets has each item that nobody gets in some best deal cost 0, though it may be worth something to somebody, and no prices fair in which it costs more.
func TestFairPricesOfWhatNobodyGets(t *testing.T) {
	all, left, wanted := 0, 0, 0
	for _, v := range slices.Concat(smallBids(3), sampleBids(12)) {
		low, high := lowOf(t, v), highOf(t, v)
		_, deals := greatestLists(v, dealByTelling)
		for _, d := range deals {
			for k := range v[0] {
				all++
				if slices.Contains(d, k) {
					continue
				}
				left++
				if greatestNumbers(turnedBids(v))[k] > 0 {
					wanted++
				}
				if low[k] != 0 || high[k] != 0 {
					t.Errorf("nobody gets the item %d of %v in %v, but its least price is %d, and its greatest one %d", k, v, d, low[k], high[k])
				}
				wantFair(t, v, low, d, true)
				for _, price := range []int{1, 2, mostItemPrice} {
					greater := slices.Clone(low)
					greater[k] = price
					wantFair(t, v, greater, d, false)
					wantSome(t, v, greater, false)
				}
			}
		}
	}
	wantBoth(t, "nobody gets an item", left, all)
	wantBoth(t, "somebody wants what nobody gets", wanted, left)
}

// TestFairPaysByFirstDeal has more than one deal best, so that what bidders pay depends on which one is asked: those without an item pay 0.
func TestFairPaysByFirstDeal(t *testing.T) {
	for _, c := range []struct {
		v    [][]int
		pays []int
	}{
		{evenBids(3, 2, 9), []int{0, 9, 9}},
		{[][]int{{5, 5}, {5, 5}, {0, 0}}, []int{0, 0, 0}},
		{[][]int{{5, 3}, {5, 3}, {0, 3}}, []int{0, 5, 3}},
		{[][]int{{6, 2}, {6, 2}, {6, 2}}, []int{0, 6, 2}},
		{[][]int{{8, 2}, {8, 2}, {0, 1}}, []int{7, 1, 0}},
		{[][]int{{2}, {8}, {8}, {8}}, []int{0, 0, 0, 8}},
	} {
		got, ok := impl.FairPays(c.v)
		wantList(t, "FairPays", got, ok, c.pays)
	}
}

// TestFairAgrees counts the item prices for which FairSome holds, and those for which FairIn does with some deal.
func TestFairAgrees(t *testing.T) {
	for _, v := range slices.Concat(smallBids(2), someBids(3, 1, 4), someBids(3, 2, 4), someBids(4, 2, 2)) {
		some, with := 0, 0
		for _, p := range itemPriceLists[len(v[0])] {
			if impl.FairSome(v, p) {
				some++
			}
			if slices.ContainsFunc(dealLists[len(v)][len(v[0])], func(d []int) bool { return impl.FairIn(v, p, d) }) {
				with++
			}
		}
		count, ok := impl.FairCount(v)
		if !ok || count != some || count != with {
			t.Errorf("FairCount(%v) = %d, %t, but FairSome holds for %d, and FairIn for %d", v, count, ok, some, with)
		}
	}
}

// TestFairAnswersAfresh asks for different bids and prices behind each other, for some that are none between, and for the first ones again.
func TestFairAnswersAfresh(t *testing.T) {
	d := dice(310)
	var samples [][][]int
	var wants []fairAnswers
	for _, v := range slices.Concat([][][]int{twoEqual, threeForTwo, twoForFour, threeCircle}, someBids(1, 1, 1), someBids(2, 2, 2), someBids(4, 1, 1), someBids(3, 3, 1), someBids(1, 3, 1)) {
		samples, wants = append(samples, v), append(wants, fairAnswersBySearch(v))
	}
	ask := func(at int) {
		v, want := samples[at], wants[at]
		wantFairOf(t, v, want)
		wantFairWith(t, v, want.low)
		wantFairWith(t, v, slices.Repeat([]int{d.below(mostItemPrice + 1)}, len(v[0])))
	}
	for range 200 {
		at := d.below(len(samples))
		ask(at)
		ask(d.below(len(samples)))
		wantNoFair(t, evenBids(len(samples[at]), len(samples[at][0]), 21))
		ask(at)
	}
}
