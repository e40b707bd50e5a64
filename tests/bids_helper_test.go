package tests

import (
	"slices"
	"testing"

	"loop.example/tradecircles/impl"
)

const mostWorth = 20

// itemLists has, for each number of bidders and each one of items, all lists with an item or none for each bidder, in the order of lists: deals, and lists that give an item to several bidders.
var itemLists = allItemLists()

func allItemLists() [impl.BidMax + 1][impl.BidMax + 1][][]int {
	var lists [impl.BidMax + 1][impl.BidMax + 1][][]int
	for n := 1; n <= impl.BidMax; n++ {
		for m := 1; m <= impl.BidMax; m++ {
			lists[n][m] = listsOver(n, -1, m-1)
		}
	}
	return lists
}

// evenBids has the same number everywhere.
func evenBids(n int, m int, worth int) [][]int {
	v := make([][]int, n)
	for i := range v {
		v[i] = slices.Repeat([]int{worth}, m)
	}
	return v
}

func randomBids(d *dice, n int, m int, most int) [][]int {
	v := evenBids(n, m, 0)
	for i := range v {
		for k := range v[i] {
			v[i][k] = d.below(most + 1)
		}
	}
	return v
}

// withIdle has all items worth 0 to one bidder.
func withIdle(v [][]int, i int) [][]int {
	idle := copyRows(v)
	clear(idle[i])
	return idle
}

// withWorthless has one item worth 0 to all.
func withWorthless(v [][]int, k int) [][]int {
	worthless := copyRows(v)
	for i := range worthless {
		worthless[i][k] = 0
	}
	return worthless
}

// turnedBids has bidders and items exchanged.
func turnedBids(v [][]int) [][]int {
	turned := evenBids(len(v[0]), len(v), 0)
	for i, row := range v {
		for k, worth := range row {
			turned[k][i] = worth
		}
	}
	return turned
}

// everyBids returns all bids of numbers up to a greatest one.
func everyBids(n int, m int, most int) [][][]int {
	var all [][][]int
	for _, numbers := range listsOver(n*m, 0, most) {
		var v [][]int
		for row := range slices.Chunk(numbers, m) {
			v = append(v, slices.Clone(row))
		}
		all = append(all, v)
	}
	return all
}

// smallBids has all bids of numbers up to a greatest one for up to two bidders and items.
func smallBids(most int) [][][]int {
	return slices.Concat(everyBids(1, 1, most), everyBids(1, 2, most), everyBids(2, 1, most), everyBids(2, 2, most))
}

// someBids has bids of even numbers, of small ones, by which several deals are best, of any ones, and with rows or items that are all 0, or rows that are alike.
func someBids(n int, m int, count int) [][][]int {
	d := dice(200 + 10*n + m)
	all := [][][]int{evenBids(n, m, 0), evenBids(n, m, 1), evenBids(n, m, mostWorth)}
	for range count {
		small, wide := randomBids(&d, n, m, 3), randomBids(&d, n, m, mostWorth)
		all = append(all, randomBids(&d, n, m, 1), small, wide)
		all = append(all, withIdle(small, d.below(n)), withIdle(wide, d.below(n)), withWorthless(small, d.below(m)), withWorthless(wide, d.below(m)))
		all = append(all, slices.Repeat(randomBids(&d, 1, m, mostWorth), n))
	}
	return all
}

// sampleBids has samples for each number of bidders and each one of items.
func sampleBids(count int) [][][]int {
	var all [][][]int
	for n := 1; n <= impl.BidMax; n++ {
		for m := 1; m <= impl.BidMax; m++ {
			all = append(all, someBids(n, m, count)...)
		}
	}
	return all
}

// timesIn is for items, and for -1.
func timesIn(list []int, item int) int {
	times := 0
	for _, x := range list {
		if x == item {
			times++
		}
	}
	return times
}

// sharedAtMost reports whether a list gives one item to a number of bidders at most, and each other one to one at most.
func sharedAtMost(list []int, shared int, most int) bool {
	for _, item := range list {
		if item == shared && timesIn(list, item) > most || item != shared && item != -1 && timesIn(list, item) > 1 {
			return false
		}
	}
	return true
}

func dealByTelling(list []int) bool {
	return sharedAtMost(list, -1, len(list))
}

func totalByTelling(v [][]int, list []int) int {
	total := 0
	for i, item := range list {
		for k, worth := range v[i] {
			if k == item {
				total += worth
			}
		}
	}
	return total
}

// greatestLists returns the greatest total of all lists of which something holds, and the lists that have it, in the order of lists.
func greatestLists(v [][]int, holds func(list []int) bool) (int, [][]int) {
	greatest := -1
	var lists [][]int
	for _, list := range itemLists[len(v)][len(v[0])] {
		if !holds(list) {
			continue
		}
		total := totalByTelling(v, list)
		if total > greatest {
			greatest, lists = total, nil
		}
		if total == greatest {
			lists = append(lists, list)
		}
	}
	return greatest, lists
}

// bidAnswers are those of all questions about bids; without has a number for each bidder, less and twice have one for each item.
type bidAnswers struct {
	best    int
	first   []int
	deals   int
	without []int
	less    []int
	twice   []int
}

func answersByTelling(v [][]int) bidAnswers {
	best, deals := greatestLists(v, dealByTelling)
	a := bidAnswers{best: best, first: deals[0], deals: len(deals)}
	for i := range v {
		without, _ := greatestLists(v, func(list []int) bool { return dealByTelling(list) && list[i] == -1 })
		a.without = append(a.without, without)
	}
	for k := range v[0] {
		less, _ := greatestLists(v, func(list []int) bool { return sharedAtMost(list, k, 0) })
		twice, _ := greatestLists(v, func(list []int) bool { return sharedAtMost(list, k, 2) })
		a.less, a.twice = append(a.less, less), append(a.twice, twice)
	}
	return a
}

// wantBids has all questions about bids answered as told.
func wantBids(t *testing.T, v [][]int, want bidAnswers) {
	t.Helper()
	if !impl.BidIn(v) {
		t.Errorf("BidIn(%v) does not hold", v)
	}
	if got, ok := impl.BidBest(v); !ok || got != want.best {
		t.Errorf("BidBest(%v) = %d, %t, want %d", v, got, ok, want.best)
	}
	if got, ok := impl.BidFirst(v); !ok || !slices.Equal(got, want.first) {
		t.Errorf("BidFirst(%v) = %v, %t, want %v", v, got, ok, want.first)
	}
	if got, ok := impl.BidDeals(v); !ok || got != want.deals {
		t.Errorf("BidDeals(%v) = %d, %t, want %d", v, got, ok, want.deals)
	}
	for i := range v {
		if got, ok := impl.BidWithout(v, i); !ok || got != want.without[i] {
			t.Errorf("BidWithout(%v, %d) = %d, %t, want %d", v, i, got, ok, want.without[i])
		}
	}
	for k := range v[0] {
		if got, ok := impl.BidLess(v, k); !ok || got != want.less[k] {
			t.Errorf("BidLess(%v, %d) = %d, %t, want %d", v, k, got, ok, want.less[k])
		}
		if got, ok := impl.BidTwice(v, k); !ok || got != want.twice[k] {
			t.Errorf("BidTwice(%v, %d) = %d, %t, want %d", v, k, got, ok, want.twice[k])
		}
	}
}

// wantLists has all lists with an item or none for each bidder answered as told: deals, best deals and lists that are none.
func wantLists(t *testing.T, v [][]int) {
	t.Helper()
	best, _ := greatestLists(v, dealByTelling)
	for _, list := range itemLists[len(v)][len(v[0])] {
		if dealByTelling(list) {
			wantDeal(t, v, list, totalByTelling(v, list), totalByTelling(v, list) == best)
		} else {
			wantNoDeal(t, v, list)
		}
	}
}

func wantDeal(t *testing.T, v [][]int, d []int, total int, best bool) {
	t.Helper()
	if got, ok := impl.BidTotal(v, d); !ok || got != total {
		t.Errorf("BidTotal(%v, %v) = %d, %t, want %d", v, d, got, ok, total)
	}
	if got := impl.BidIs(v, d); got != best {
		t.Errorf("BidIs(%v, %v) = %t", v, d, got)
	}
}

func wantNoDeal(t *testing.T, v [][]int, d []int) {
	t.Helper()
	if got, ok := impl.BidTotal(v, d); ok || got != 0 {
		t.Errorf("BidTotal(%v, %v) = %d, %t", v, d, got, ok)
	}
	if impl.BidIs(v, d) {
		t.Errorf("BidIs(%v, %v) holds", v, d)
	}
}

// bestTotal is for arguments of which it is known that they are bids.
func bestTotal(t *testing.T, v [][]int) int {
	t.Helper()
	best, ok := impl.BidBest(v)
	if !ok {
		t.Fatalf("BidBest(%v) fails", v)
	}
	return best
}

func firstDeal(t *testing.T, v [][]int) []int {
	t.Helper()
	d, ok := impl.BidFirst(v)
	if !ok || len(d) != len(v) {
		t.Fatalf("BidFirst(%v) = %v, %t", v, d, ok)
	}
	return d
}

func countDeals(t *testing.T, v [][]int) int {
	t.Helper()
	count, ok := impl.BidDeals(v)
	if !ok {
		t.Fatalf("BidDeals(%v) fails", v)
	}
	return count
}

// numberOf has one of the functions that take a bidder or an item succeed.
func numberOf(t *testing.T, what func([][]int, int) (int, bool), v [][]int, x int) int {
	t.Helper()
	number, ok := what(v, x)
	if !ok {
		t.Fatalf("for %v, %d fails", v, x)
	}
	return number
}
