package tests

import (
	"slices"
	"testing"

	"loop.example/tradecircles/impl"
)

const mostItemPrice = 20

// noCount is for bids on too many items for FairCount.
const noCount = -1

// itemPriceLists has, for each number of items, all item prices, in the order of lists.
var itemPriceLists = [][][]int{1: listsOver(1, 0, mostItemPrice), 2: listsOver(2, 0, mostItemPrice), 3: listsOver(3, 0, mostItemPrice), 4: listsOver(4, 0, mostItemPrice)}

// dealLists has, for each number of bidders and each one of items, all deals, in the order of lists.
var dealLists = allDealLists()

func allDealLists() [impl.BidMax + 1][impl.BidMax + 1][][]int {
	var lists [impl.BidMax + 1][impl.BidMax + 1][][]int
	for n := 1; n <= impl.BidMax; n++ {
		for m := 1; m <= impl.BidMax; m++ {
			for _, list := range itemLists[n][m] {
				if dealByTelling(list) {
					lists[n][m] = append(lists[n][m], list)
				}
			}
		}
	}
	return lists
}

// likedBest has, for each bidder, at the place 0 whether nothing is liked at least as well as each item, and behind it the same for each item, held against all others and nothing.
type likedBest [impl.BidMax][impl.BidMax + 1]bool

func gainByTelling(v [][]int, p []int, i int) int {
	gain := 0
	for k, worth := range v[i] {
		if worth-p[k] > gain {
			gain = worth - p[k]
		}
	}
	return gain
}

func likedByTelling(v [][]int, p []int) likedBest {
	var liked likedBest
	for i := range v {
		gain := gainByTelling(v, p, i)
		liked[i][0] = gain == 0
		for k, worth := range v[i] {
			liked[i][1+k] = worth-p[k] == gain
		}
	}
	return liked
}

// allows reports whether in a deal each bidder gets what is liked best, and each item with a price is given to somebody.
func (liked *likedBest) allows(p []int, d []int) bool {
	given := 0
	for i, item := range d {
		if !liked[i][1+item] {
			return false
		}
		given |= 1 << (1 + item)
	}
	for k, price := range p {
		if price > 0 && !isIn(given, 1+k) {
			return false
		}
	}
	return true
}

func fairByTelling(v [][]int, p []int, d []int) bool {
	liked := likedByTelling(v, p)
	return liked.allows(p, d)
}

func someFairByTelling(v [][]int, p []int) bool {
	liked := likedByTelling(v, p)
	return slices.ContainsFunc(dealLists[len(v)][len(v[0])], func(d []int) bool { return liked.allows(p, d) })
}

// fairPricesByTelling tries all item prices with all deals.
func fairPricesByTelling(v [][]int) [][]int {
	var fair [][]int
	for _, p := range itemPriceLists[len(v[0])] {
		if someFairByTelling(v, p) {
			fair = append(fair, p)
		}
	}
	return fair
}

// fairAnswers are those of the questions about bids alone; the count is noCount where it is told for no such bids.
type fairAnswers struct {
	low   []int
	high  []int
	pays  []int
	count int
}

// limitsOf returns the least and the greatest number at each place of lists, of which there is one at least.
func limitsOf(lists [][]int) ([]int, []int) {
	low, high := slices.Clone(lists[0]), slices.Clone(lists[0])
	for _, list := range lists {
		for k, x := range list {
			low[k], high[k] = min(low[k], x), max(high[k], x)
		}
	}
	return low, high
}

// paysByTelling looks for what all others get in all deals, with the bidder and in the first best deal.
func paysByTelling(v [][]int) []int {
	_, deals := greatestLists(v, dealByTelling)
	var pays []int
	for i := range v {
		others := slices.Clone(deals[0])
		others[i] = -1
		without, _ := greatestLists(v, func(list []int) bool { return dealByTelling(list) && list[i] == -1 })
		pays = append(pays, without-totalByTelling(v, others))
	}
	return pays
}

// fairAnswersBySearch needs no deal to be best: the least and the greatest prices are those of all that are fair.
func fairAnswersBySearch(v [][]int) fairAnswers {
	fair := fairPricesByTelling(v)
	low, high := limitsOf(fair)
	count := noCount
	if len(v[0]) <= 2 {
		count = len(fair)
	}
	return fairAnswers{low, high, paysByTelling(v), count}
}

// wantFairOf has all questions about bids alone answered as told.
func wantFairOf(t *testing.T, v [][]int, want fairAnswers) {
	t.Helper()
	if got, ok := impl.FairLow(v); !ok || !slices.Equal(got, want.low) {
		t.Errorf("FairLow(%v) = %v, %t, want %v", v, got, ok, want.low)
	}
	if got, ok := impl.FairHigh(v); !ok || !slices.Equal(got, want.high) {
		t.Errorf("FairHigh(%v) = %v, %t, want %v", v, got, ok, want.high)
	}
	if got, ok := impl.FairPays(v); !ok || !slices.Equal(got, want.pays) {
		t.Errorf("FairPays(%v) = %v, %t, want %v", v, got, ok, want.pays)
	}
	got, ok := impl.FairCount(v)
	if want.count == noCount {
		if ok || got != 0 {
			t.Errorf("FairCount(%v) = %d, %t", v, got, ok)
		}
	} else if !ok || got != want.count {
		t.Errorf("FairCount(%v) = %d, %t, want %d", v, got, ok, want.count)
	}
}

// wantFairWith has item prices answered as told: with each deal, with some deal, and for each bidder.
func wantFairWith(t *testing.T, v [][]int, p []int) {
	t.Helper()
	wantSome(t, v, p, someFairByTelling(v, p))
	for _, d := range dealLists[len(v)][len(v[0])] {
		wantFair(t, v, p, d, fairByTelling(v, p, d))
	}
	for i := range v {
		wantGain(t, v, p, i, gainByTelling(v, p, i))
	}
}

func wantFair(t *testing.T, v [][]int, p []int, d []int, want bool) {
	t.Helper()
	if got := impl.FairIn(v, p, d); got != want {
		t.Errorf("FairIn(%v, %v, %v) = %t", v, p, d, got)
	}
}

func wantSome(t *testing.T, v [][]int, p []int, want bool) {
	t.Helper()
	if got := impl.FairSome(v, p); got != want {
		t.Errorf("FairSome(%v, %v) = %t", v, p, got)
	}
}

func wantGain(t *testing.T, v [][]int, p []int, i int, want int) {
	t.Helper()
	if got, ok := impl.FairGain(v, p, i); !ok || got != want {
		t.Errorf("FairGain(%v, %v, %d) = %d, %t, want %d", v, p, i, got, ok, want)
	}
}

func wantNoGain(t *testing.T, v [][]int, p []int, i int) {
	t.Helper()
	if got, ok := impl.FairGain(v, p, i); ok || got != 0 {
		t.Errorf("FairGain(%v, %v, %d) = %d, %t", v, p, i, got, ok)
	}
}

// lowOf and the functions behind it are for arguments of which it is known that they are bids.
func lowOf(t *testing.T, v [][]int) []int {
	t.Helper()
	p, ok := impl.FairLow(v)
	if !ok || len(p) != len(v[0]) {
		t.Fatalf("FairLow(%v) = %v, %t", v, p, ok)
	}
	return p
}

func highOf(t *testing.T, v [][]int) []int {
	t.Helper()
	p, ok := impl.FairHigh(v)
	if !ok || len(p) != len(v[0]) {
		t.Fatalf("FairHigh(%v) = %v, %t", v, p, ok)
	}
	return p
}

func paysOf(t *testing.T, v [][]int) []int {
	t.Helper()
	p, ok := impl.FairPays(v)
	if !ok || len(p) != len(v) {
		t.Fatalf("FairPays(%v) = %v, %t", v, p, ok)
	}
	return p
}

func gainOf(t *testing.T, v [][]int, p []int, i int) int {
	t.Helper()
	gain, ok := impl.FairGain(v, p, i)
	if !ok {
		t.Fatalf("FairGain(%v, %v, %d) fails", v, p, i)
	}
	return gain
}

// betweenPrices has each price in the middle between two others; what is left of a half is lost.
func betweenPrices(low []int, high []int) []int {
	between := slices.Clone(low)
	for k := range between {
		between[k] += (high[k] - low[k]) / 2
	}
	return between
}

// changedPrices has one price changed by a number, and fails where it would be none.
func changedPrices(p []int, k int, by int) ([]int, bool) {
	changed := slices.Clone(p)
	changed[k] += by
	return changed, allWithin(changed, 0, mostItemPrice)
}

// tellingPrices are those at and around the limits of fair prices, and any others.
func tellingPrices(d *dice, low []int, high []int) [][]int {
	m := len(low)
	all := [][]int{low, high, make([]int, m), slices.Repeat([]int{mostItemPrice}, m), betweenPrices(low, high)}
	for _, p := range [][]int{low, high} {
		for k := range p {
			for _, by := range []int{-1, 1} {
				if changed, ok := changedPrices(p, k, by); ok {
					all = append(all, changed)
				}
			}
		}
	}
	for range 4 {
		p := make([]int, m)
		for k := range p {
			p[k] = low[k] + d.below(high[k]-low[k]+1)
		}
		all = append(all, p, randomBids(d, 1, m, mostItemPrice)[0])
	}
	return all
}
