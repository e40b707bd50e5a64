package tests

import (
	"slices"
	"testing"

	"loop.example/tradecircles/impl"
)

// promiseBids are the bids for which the promises of the chapter are tried.
func promiseBids() [][][]int {
	return slices.Concat(smallBids(2), sampleBids(12))
}

// greatestNumbers returns the greatest number of each row.
func greatestNumbers(v [][]int) []int {
	greatest := make([]int, len(v))
	for i, row := range v {
		greatest[i] = slices.Max(row)
	}
	return greatest
}

func sumOf(list []int) int {
	sum := 0
	for _, x := range list {
		sum += x
	}
	return sum
}

func TestPromise59(t *testing.T) {
	all, met := 0, 0
	for _, v := range slices.Concat(promiseBids(), notBids()) {
		all++
		if !impl.BidIn(v) {
			continue
		}
		met++
		firstDeal(t, v)
		if len(v) < 2 {
			continue
		}
		if less := v[:len(v)-1]; !impl.BidIn(less) {
			t.Errorf("BidIn(%v) does not hold, which has one bidder less", less)
		} else {
			firstDeal(t, less)
		}
	}
	wantBoth(t, "BidIn holds", met, all)
}

func TestPromise60(t *testing.T) {
	all, met := 0, 0
	for _, v := range slices.Concat(smallBids(2), sampleBids(2)) {
		best := bestTotal(t, v)
		for _, d := range itemLists[len(v)][len(v[0])] {
			total, ok := impl.BidTotal(v, d)
			if !ok {
				if impl.BidIs(v, d) {
					t.Errorf("BidIs(%v, %v) holds, but BidTotal fails", v, d)
				}
				continue
			}
			if total > best || (total == best) != impl.BidIs(v, d) {
				t.Errorf("BidTotal(%v, %v) = %d, BidBest %d, BidIs %t", v, d, total, best, impl.BidIs(v, d))
			}
			all++
			if total == best {
				met++
			}
		}
	}
	wantBoth(t, "BidTotal is BidBest", met, all)
}

func TestPromise61(t *testing.T) {
	for _, v := range promiseBids() {
		best := bestTotal(t, v)
		if turned := bestTotal(t, turnedBids(v)); turned != best {
			t.Errorf("BidBest(%v) = %d, but turned %d", v, best, turned)
		}
		if greatest := slices.Max(greatestNumbers(v)); best < greatest {
			t.Errorf("BidBest(%v) = %d, less than %d", v, best, greatest)
		}
	}
}

func TestPromise62(t *testing.T) {
	for _, v := range promiseBids() {
		first, best := firstDeal(t, v), bestTotal(t, v)
		total, ok := impl.BidTotal(v, first)
		if !impl.BidIs(v, first) || !ok || total != best {
			t.Errorf("BidFirst(%v) = %v, BidIs %t, BidTotal %d, %t, BidBest %d", v, first, impl.BidIs(v, first), total, ok, best)
		}
	}
}

func TestPromise63(t *testing.T) {
	all, met := 0, 0
	for _, v := range slices.Concat(smallBids(2), sampleBids(2)) {
		best, count := bestTotal(t, v), countDeals(t, v)
		for _, d := range itemLists[len(v)][len(v[0])] {
			all++
			if !impl.BidIs(v, d) {
				continue
			}
			met++
			if total, ok := impl.BidTotal(v, d); count < 1 || !ok || total != best {
				t.Errorf("BidIs(%v, %v) holds, but BidDeals is %d, BidTotal %d, %t, BidBest %d", v, d, count, total, ok, best)
			}
		}
	}
	wantBoth(t, "BidIs holds", met, all)
}

// wantLosses has the total without one bidder or one item at most BidBest, and at least this less the greatest number of the row that the one has.
func wantLosses(t *testing.T, name string, total func([][]int, int) (int, bool), rows func([][]int) [][]int) {
	t.Helper()
	all, same, least := 0, 0, 0
	for _, v := range promiseBids() {
		best := bestTotal(t, v)
		for x, greatest := range greatestNumbers(rows(v)) {
			got := numberOf(t, total, v, x)
			if got > best || got < best-greatest {
				t.Errorf("%s(%v, %d) = %d, BidBest %d", name, v, x, got, best)
			}
			all++
			if got == best {
				same++
			}
			if got == best-greatest {
				least++
			}
		}
	}
	wantBoth(t, name+" is BidBest", same, all)
	wantBoth(t, name+" is less by the greatest number", least, all)
}

func TestPromise64(t *testing.T) {
	wantLosses(t, "BidWithout", impl.BidWithout, copyRows)
}

func TestPromise65(t *testing.T) {
	wantLosses(t, "BidLess", impl.BidLess, turnedBids)
}

func TestPromise66(t *testing.T) {
	all, same, most := 0, 0, 0
	for _, v := range promiseBids() {
		best := bestTotal(t, v)
		for k := range v[0] {
			twice, less := numberOf(t, impl.BidTwice, v, k), numberOf(t, impl.BidLess, v, k)
			if twice < best || twice-best > best-less {
				t.Errorf("BidTwice(%v, %d) = %d, BidBest %d, BidLess %d", v, k, twice, best, less)
			}
			all++
			if twice == best {
				same++
			}
			if twice-best == best-less {
				most++
			}
		}
	}
	wantBoth(t, "BidTwice is BidBest", same, all)
	wantBoth(t, "BidTwice gains what BidBest does", most, all)
}

func TestPromise67(t *testing.T) {
	all, one := 0, 0
	for _, v := range promiseBids() {
		count := countDeals(t, v)
		if count < 1 || !impl.BidIs(v, firstDeal(t, v)) {
			t.Errorf("BidDeals(%v) = %d, and BidIs of BidFirst is %t", v, count, impl.BidIs(v, firstDeal(t, v)))
		}
		all++
		if count == 1 {
			one++
		}
	}
	wantBoth(t, "one deal is best", one, all)
}

func TestPromise68(t *testing.T) {
	all, ofBidders, ofItems := 0, 0, 0
	for _, v := range promiseBids() {
		best := bestTotal(t, v)
		bidders, items := sumOf(greatestNumbers(v)), sumOf(greatestNumbers(turnedBids(v)))
		if best > bidders || best > items {
			t.Errorf("BidBest(%v) = %d, but the greatest numbers of the bidders are %d, those of the items %d", v, best, bidders, items)
		}
		all++
		if best == bidders {
			ofBidders++
		}
		if best == items {
			ofItems++
		}
	}
	wantBoth(t, "each bidder gets what is worth most", ofBidders, all)
	wantBoth(t, "each item is given to whom it is worth most", ofItems, all)
}
