package tests

import (
	"slices"
	"testing"

	"loop.example/tradecircles/impl"
)

// pricedBids are bids together with some item prices for them, fair ones and others.
type pricedBids struct {
	v      [][]int
	prices [][]int
}

// promisePriced has all item prices for small bids, and telling ones for samples of more.
func promisePriced() []pricedBids {
	d := dice(330)
	var all []pricedBids
	for _, v := range smallBids(2) {
		all = append(all, pricedBids{v, itemPriceLists[len(v[0])]})
	}
	for _, v := range sampleBids(3) {
		low, _ := impl.FairLow(v)
		high, _ := impl.FairHigh(v)
		all = append(all, pricedBids{v, tellingPrices(&d, low, high)})
	}
	return all
}

// isBetween compares place by place.
func isBetween(p []int, low []int, high []int) bool {
	if len(p) != len(low) || len(p) != len(high) {
		return false
	}
	for k, price := range p {
		if price < low[k] || price > high[k] {
			return false
		}
	}
	return true
}

func TestPromise69(t *testing.T) {
	all, met := 0, 0
	for _, c := range promisePriced() {
		low, high := lowOf(t, c.v), highOf(t, c.v)
		for _, p := range c.prices {
			for _, d := range dealLists[len(c.v)][len(c.v[0])] {
				all++
				if !impl.FairIn(c.v, p, d) {
					continue
				}
				met++
				if !impl.BidIs(c.v, d) || !impl.FairSome(c.v, p) || !isBetween(p, low, high) {
					t.Errorf("FairIn(%v, %v, %v) holds, BidIs %t, FairSome %t, FairLow %v, FairHigh %v", c.v, p, d, impl.BidIs(c.v, d), impl.FairSome(c.v, p), low, high)
				}
			}
		}
	}
	wantBoth(t, "FairIn holds", met, all)
}

func TestPromise70(t *testing.T) {
	all, met := 0, 0
	for _, c := range promisePriced() {
		low, high, first := lowOf(t, c.v), highOf(t, c.v), firstDeal(t, c.v)
		for _, p := range c.prices {
			all++
			if !impl.FairSome(c.v, p) {
				continue
			}
			met++
			if !impl.FairIn(c.v, p, first) || !isBetween(p, low, high) {
				t.Errorf("FairSome(%v, %v) holds, FairIn with %v %t, FairLow %v, FairHigh %v", c.v, p, first, impl.FairIn(c.v, p, first), low, high)
			}
		}
	}
	wantBoth(t, "FairSome holds", met, all)
}

func TestPromise71(t *testing.T) {
	all, same, nothing := 0, 0, 0
	for _, v := range promiseBids() {
		low, high, first := lowOf(t, v), highOf(t, v), firstDeal(t, v)
		if !impl.FairIn(v, low, first) || !isBetween(low, low, high) {
			t.Errorf("FairLow(%v) = %v, FairHigh %v, FairIn with %v %t", v, low, high, first, impl.FairIn(v, low, first))
		}
		all++
		if slices.Equal(low, high) {
			same++
		}
		if sumOf(low) == 0 {
			nothing++
		}
	}
	wantBoth(t, "FairLow is FairHigh", same, all)
	wantBoth(t, "FairLow is 0", nothing, all)
}

func TestPromise72(t *testing.T) {
	all, nothing := 0, 0
	for _, v := range promiseBids() {
		high, first := highOf(t, v), firstDeal(t, v)
		if !impl.FairIn(v, high, first) {
			t.Errorf("FairHigh(%v) = %v is not fair with %v", v, high, first)
		}
		all++
		if sumOf(high) == 0 {
			nothing++
		}
	}
	wantBoth(t, "FairHigh is 0", nothing, all)
}

func TestPromise73(t *testing.T) {
	all, idle, paying := 0, 0, 0
	for _, v := range promiseBids() {
		pays, low := paysOf(t, v), lowOf(t, v)
		for i, item := range firstDeal(t, v) {
			want := 0
			all++
			if item == -1 {
				idle++
			} else {
				want = low[item]
			}
			if want > 0 {
				paying++
			}
			if pays[i] != want {
				t.Errorf("FairPays(%v) = %v, but %d gets %d, and FairLow is %v", v, pays, i, item, low)
			}
		}
	}
	wantBoth(t, "bidders get nothing", idle, all)
	wantBoth(t, "bidders pay something", paying, all)
}

func TestPromise74(t *testing.T) {
	all, told, more := 0, 0, 0
	for _, v := range promiseBids() {
		all++
		count, ok := impl.FairCount(v)
		if !ok {
			continue
		}
		told++
		low, high := lowOf(t, v), highOf(t, v)
		if count < 1 {
			t.Errorf("FairCount(%v) = %d", v, count)
		}
		for k := range low {
			if count < high[k]-low[k]+1 {
				t.Errorf("FairCount(%v) = %d, but for the item %d there are numbers from %d to %d", v, count, k, low[k], high[k])
			}
			if count > high[k]-low[k]+1 {
				more++
			}
		}
	}
	wantBoth(t, "FairCount succeeds", told, all)
	wantBoth(t, "there are more fair prices than numbers for an item", more, all)
}

func TestPromise75(t *testing.T) {
	all, nothing, same := 0, 0, 0
	for _, c := range promisePriced() {
		free := make([]int, len(c.v[0]))
		for _, p := range c.prices {
			for i := range c.v {
				gain, most := gainOf(t, c.v, p, i), gainOf(t, c.v, free, i)
				if gain < 0 || gain > most {
					t.Errorf("FairGain(%v, %v, %d) = %d, but with all prices as 0 %d", c.v, p, i, gain, most)
				}
				all++
				if gain == 0 {
					nothing++
				}
				if gain == most {
					same++
				}
			}
		}
	}
	wantBoth(t, "FairGain is 0", nothing, all)
	wantBoth(t, "FairGain is that with all prices as 0", same, all)
}

func TestPromise76(t *testing.T) {
	all, lowIsAll, highIsAll := 0, 0, 0
	for _, v := range promiseBids() {
		best := bestTotal(t, v)
		low, high := sumOf(lowOf(t, v)), sumOf(highOf(t, v))
		if low > best || high > best {
			t.Errorf("for %v the sum of FairLow is %d, that of FairHigh %d, BidBest %d", v, low, high, best)
		}
		all++
		if low == best {
			lowIsAll++
		}
		if high == best {
			highIsAll++
		}
	}
	wantBoth(t, "the sum of FairLow is BidBest", lowIsAll, all)
	wantBoth(t, "the sum of FairHigh is BidBest", highIsAll, all)
}

func TestPromise77(t *testing.T) {
	all, nothing := 0, 0
	for _, v := range promiseBids() {
		paysOf(t, v)
		best, low := bestTotal(t, v), lowOf(t, v)
		for i := range v {
			gain, without := gainOf(t, v, low, i), numberOf(t, impl.BidWithout, v, i)
			if gain != best-without {
				t.Errorf("FairGain(%v, %v, %d) = %d, BidBest %d, BidWithout %d", v, low, i, gain, best, without)
			}
			all++
			if gain == 0 {
				nothing++
			}
		}
	}
	wantBoth(t, "bidders gain nothing", nothing, all)
}
