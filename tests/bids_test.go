package tests

import (
	"slices"
	"testing"

	"loop.example/tradecircles/impl"
)

func TestBidConstants(t *testing.T) {
	if impl.BidMax != 4 {
		t.Errorf("BidMax = %d", impl.BidMax)
	}
}

// Bids for which the deals that are best are told by hand.
var (
	twoEqual    = [][]int{{5, 4}, {4, 3}}
	threeForTwo = [][]int{{10, 6}, {8, 1}, {3, 5}}
	twoForFour  = [][]int{{2, 7, 7, 1}, {0, 7, 3, 5}}
	threeCircle = [][]int{{4, 5, 0}, {0, 4, 5}, {5, 0, 4}}
	fourOwn     = [][]int{{9, 0, 0, 0}, {0, 8, 0, 0}, {0, 0, 7, 0}, {0, 0, 0, 6}}
)

func TestBidExamples(t *testing.T) {
	for _, c := range []struct {
		v    [][]int
		want bidAnswers
	}{
		// One bidder with one item.
		{[][]int{{7}}, bidAnswers{7, []int{0}, 1, []int{0}, []int{0}, []int{7}}},
		{[][]int{{20}}, bidAnswers{20, []int{0}, 1, []int{0}, []int{0}, []int{20}}},
		{[][]int{{0}}, bidAnswers{0, []int{-1}, 2, []int{0}, []int{0}, []int{0}}},
		// One bidder with several items: one of them is got.
		{[][]int{{3, 9, 4}}, bidAnswers{9, []int{1}, 1, []int{0}, []int{9, 4, 9}, []int{9, 9, 9}}},
		{[][]int{{9, 4, 9}}, bidAnswers{9, []int{0}, 2, []int{0}, []int{9, 9, 9}, []int{9, 9, 9}}},
		{[][]int{{0, 0, 0, 1}}, bidAnswers{1, []int{3}, 1, []int{0}, []int{1, 1, 1, 0}, []int{1, 1, 1, 1}}},
		// Several bidders with one item: twice it may be given to two of them, and not to three.
		{[][]int{{4}, {9}, {6}}, bidAnswers{9, []int{-1, 0, -1}, 1, []int{9, 6, 9}, []int{0}, []int{15}}},
		{[][]int{{6}, {6}}, bidAnswers{6, []int{-1, 0}, 2, []int{6, 6}, []int{0}, []int{12}}},
		{[][]int{{6}, {6}, {6}, {6}}, bidAnswers{6, []int{-1, -1, -1, 0}, 4, []int{6, 6, 6, 6}, []int{0}, []int{12}}},
		// As many bidders as items.
		{twoEqual, bidAnswers{8, []int{0, 1}, 2, []int{4, 5}, []int{4, 5}, []int{9, 8}}},
		{threeCircle, bidAnswers{15, []int{1, 2, 0}, 1, []int{10, 10, 10}, []int{10, 10, 10}, []int{15, 15, 15}}},
		{fourOwn, bidAnswers{30, []int{0, 1, 2, 3}, 1, []int{21, 22, 23, 24}, []int{21, 22, 23, 24}, []int{30, 30, 30, 30}}},
		// More bidders than items, and more items than bidders.
		{threeForTwo, bidAnswers{15, []int{0, -1, 1}, 1, []int{13, 15, 14}, []int{6, 10}, []int{23, 19}}},
		{twoForFour, bidAnswers{14, []int{2, 1}, 1, []int{7, 7}, []int{14, 12, 12, 14}, []int{14, 14, 14, 14}}},
		// A bidder to whom all is worth 0: a deal is best in which this one gets nothing, and one with what is left.
		{[][]int{{0, 0}, {3, 5}}, bidAnswers{5, []int{-1, 1}, 2, []int{5, 0}, []int{5, 3}, []int{5, 5}}},
		{[][]int{{3, 5}, {0, 0}}, bidAnswers{5, []int{1, -1}, 2, []int{0, 5}, []int{5, 3}, []int{5, 5}}},
		{[][]int{{3, 0}, {0, 0}}, bidAnswers{3, []int{0, -1}, 2, []int{0, 3}, []int{0, 3}, []int{3, 3}}},
		// An item that is worth 0 to all.
		{[][]int{{4, 0}, {6, 0}}, bidAnswers{6, []int{-1, 0}, 2, []int{6, 4}, []int{0, 6}, []int{10, 6}}},
		{[][]int{{0, 4}, {0, 6}}, bidAnswers{6, []int{-1, 1}, 2, []int{6, 4}, []int{6, 0}, []int{6, 10}}},
		// All numbers 0: each deal is best, and first is the one in which nobody gets an item.
		{evenBids(2, 2, 0), bidAnswers{0, []int{-1, -1}, 7, []int{0, 0}, []int{0, 0}, []int{0, 0}}},
		{evenBids(4, 4, 0), bidAnswers{0, []int{-1, -1, -1, -1}, 209, []int{0, 0, 0, 0}, []int{0, 0, 0, 0}, []int{0, 0, 0, 0}}},
		// All numbers 20.
		{evenBids(4, 4, 20), bidAnswers{80, []int{0, 1, 2, 3}, 24, []int{60, 60, 60, 60}, []int{60, 60, 60, 60}, []int{80, 80, 80, 80}}},
		{evenBids(4, 1, 20), bidAnswers{20, []int{-1, -1, -1, 0}, 4, []int{20, 20, 20, 20}, []int{0}, []int{40}}},
		{evenBids(3, 2, 20), bidAnswers{40, []int{-1, 0, 1}, 6, []int{40, 40, 40}, []int{20, 20}, []int{60, 60}}},
		{evenBids(1, 4, 20), bidAnswers{20, []int{0}, 4, []int{0}, []int{20, 20, 20, 20}, []int{20, 20, 20, 20}}},
	} {
		wantBids(t, c.v, c.want)
	}
}

// factorial is also the number of ways in which as many bidders get as many items.
func factorial(n int) int {
	product := 1
	for x := 2; x <= n; x++ {
		product *= x
	}
	return product
}

// choices is the number of ways to choose some of n.
func choices(n int, some int) int {
	return factorial(n) / factorial(some) / factorial(n-some)
}

// TestBidsAllZero has, for each number of bidders and each one of items, all deals best.
func TestBidsAllZero(t *testing.T) {
	for n := 1; n <= impl.BidMax; n++ {
		for m := 1; m <= impl.BidMax; m++ {
			v := evenBids(n, m, 0)
			count := 0
			for given := range min(n, m) + 1 {
				count += choices(n, given) * choices(m, given) * factorial(given)
			}
			none := slices.Repeat([]int{-1}, n)
			wantBids(t, v, bidAnswers{0, none, count, make([]int, n), make([]int, m), make([]int, m)})
			wantDeal(t, v, none, 0, true)
			for _, list := range itemLists[n][m] {
				if dealByTelling(list) {
					wantDeal(t, v, list, 0, true)
				} else {
					wantNoDeal(t, v, list)
				}
			}
		}
	}
}

// TestBidsAllGreatest has best the deals in which as many as may get an item; the last bidders do so first, for -1 stands ahead of all items.
func TestBidsAllGreatest(t *testing.T) {
	for n := 1; n <= impl.BidMax; n++ {
		for m := 1; m <= impl.BidMax; m++ {
			v := evenBids(n, m, 20)
			given := min(n, m)
			first := slices.Repeat([]int{-1}, n-given)
			for item := range given {
				first = append(first, item)
			}
			wantBids(t, v, bidAnswers{
				best:    20 * given,
				first:   first,
				deals:   choices(n, given) * choices(m, given) * factorial(given),
				without: slices.Repeat([]int{20 * min(n-1, m)}, n),
				less:    slices.Repeat([]int{20 * min(n, m-1)}, m),
				twice:   slices.Repeat([]int{20 * min(n, m+1)}, m),
			})
			wantLists(t, v)
		}
	}
}

func TestBidDealExamples(t *testing.T) {
	for _, c := range []struct {
		v     [][]int
		d     []int
		total int
		best  bool
	}{
		{[][]int{{7}}, []int{0}, 7, true},
		{[][]int{{7}}, []int{-1}, 0, false},
		{[][]int{{0}}, []int{0}, 0, true},
		{[][]int{{0}}, []int{-1}, 0, true},
		// All get something.
		{twoEqual, []int{0, 1}, 8, true},
		{twoEqual, []int{1, 0}, 8, true},
		{twoForFour, []int{2, 1}, 14, true},
		{twoForFour, []int{1, 2}, 10, false},
		{twoForFour, []int{3, 0}, 1, false},
		{threeCircle, []int{1, 2, 0}, 15, true},
		{threeCircle, []int{0, 1, 2}, 12, false},
		{threeCircle, []int{2, 0, 1}, 0, false},
		{fourOwn, []int{0, 1, 2, 3}, 30, true},
		{fourOwn, []int{3, 2, 1, 0}, 0, false},
		{fourOwn, []int{0, 1, 3, 2}, 17, false},
		// Some get something.
		{twoEqual, []int{0, -1}, 5, false},
		{twoEqual, []int{-1, 0}, 4, false},
		{threeForTwo, []int{0, -1, 1}, 15, true},
		{threeForTwo, []int{1, 0, -1}, 14, false},
		{threeForTwo, []int{-1, 1, 0}, 4, false},
		{threeForTwo, []int{-1, -1, 1}, 5, false},
		{fourOwn, []int{0, 1, 2, -1}, 24, false},
		{fourOwn, []int{-1, 1, -1, 3}, 14, false},
		{[][]int{{0, 0}, {3, 5}}, []int{0, 1}, 5, true},
		{[][]int{{0, 0}, {3, 5}}, []int{-1, 1}, 5, true},
		{[][]int{{0, 0}, {3, 5}}, []int{1, 0}, 3, false},
		{[][]int{{4, 0}, {6, 0}}, []int{1, 0}, 6, true},
		// All get nothing.
		{twoEqual, []int{-1, -1}, 0, false},
		{threeForTwo, []int{-1, -1, -1}, 0, false},
		{fourOwn, []int{-1, -1, -1, -1}, 0, false},
		{evenBids(4, 4, 0), []int{-1, -1, -1, -1}, 0, true},
		{evenBids(4, 4, 0), []int{-1, 3, -1, 0}, 0, true},
		{evenBids(4, 4, 20), []int{3, 2, 1, 0}, 80, true},
		{evenBids(4, 4, 20), []int{3, 2, 1, -1}, 60, false},
	} {
		wantDeal(t, c.v, c.d, c.total, c.best)
	}
}

// TestBidsOfSmallNumbers has all bids of small numbers for up to two bidders and items.
func TestBidsOfSmallNumbers(t *testing.T) {
	for _, v := range smallBids(4) {
		wantBids(t, v, answersByTelling(v))
		wantLists(t, v)
	}
}

// TestBidsByTelling has samples for each number of bidders and each one of items.
func TestBidsByTelling(t *testing.T) {
	for _, v := range sampleBids(25) {
		wantBids(t, v, answersByTelling(v))
	}
	for _, v := range sampleBids(2) {
		wantLists(t, v)
	}
}

// TestBidTwiceGivesToTwo has, for each item, bids by which two bidders get it, no third one does, and no other item is given twice.
func TestBidTwiceGivesToTwo(t *testing.T) {
	for n := 1; n <= impl.BidMax; n++ {
		for m := 1; m <= impl.BidMax; m++ {
			for k := range m {
				v := evenBids(n, m, 0)
				for i := range v {
					v[i][k] = 10 + i
				}
				last := 9 + n
				want := last
				if n > 1 {
					want += last - 1
				}
				for other := range m {
					got := numberOf(t, impl.BidTwice, v, other)
					if other == k {
						wantNumber(t, "BidTwice of the item that all want", got, true, want)
					} else {
						wantNumber(t, "BidTwice of an item that nobody wants", got, true, last)
					}
				}
			}
		}
	}
}

// TestBidFirstGivesNothingForNothing has no item that is worth 0 given to somebody, for the deal without this is ahead of it.
func TestBidFirstGivesNothingForNothing(t *testing.T) {
	given, kept := 0, 0
	for _, v := range slices.Concat(smallBids(2), sampleBids(25)) {
		for i, item := range firstDeal(t, v) {
			if item == -1 {
				kept++
				continue
			}
			given++
			if v[i][item] == 0 {
				t.Errorf("BidFirst(%v) gives the item %d to %d, to whom it is worth 0", v, item, i)
			}
		}
	}
	wantBoth(t, "bidders get an item", given, given+kept)
}

// TestBidDealsCountOnce counts the lists for which BidIs holds; BidFirst is the first one of them.
func TestBidDealsCountOnce(t *testing.T) {
	all, several := 0, 0
	for _, v := range slices.Concat(smallBids(2), sampleBids(2)) {
		best := slices.DeleteFunc(slices.Clone(itemLists[len(v)][len(v[0])]), func(list []int) bool { return !impl.BidIs(v, list) })
		count, ok := impl.BidDeals(v)
		wantNumber(t, "BidDeals", count, ok, len(best))
		if first := firstDeal(t, v); !slices.Equal(first, best[0]) {
			t.Errorf("BidFirst(%v) = %v, want %v", v, first, best[0])
		}
		all++
		if count > 1 {
			several++
		}
	}
	wantBoth(t, "several deals are best", several, all)
}

// TestBidsAnswerAfresh asks for different bids behind each other, for some that are none between, and for the first ones again.
func TestBidsAnswerAfresh(t *testing.T) {
	d := dice(210)
	samples := slices.Concat([][][]int{twoEqual, threeForTwo, twoForFour, threeCircle, fourOwn}, sampleBids(1))
	for range 300 {
		v := samples[d.below(len(samples))]
		want := answersByTelling(v)
		wantBids(t, v, want)
		other := samples[d.below(len(samples))]
		wantBids(t, other, answersByTelling(other))
		wantNoBids(t, evenBids(len(v), len(v[0]), 21))
		wantBids(t, v, want)
	}
}
