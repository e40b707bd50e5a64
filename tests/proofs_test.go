package tests

import (
	"slices"
	"sync"
	"testing"

	"loop.example/tradecircles/impl"
)

func TestProofRateExamples(t *testing.T) {
	for _, c := range []struct {
		a    [][]int
		want string
	}{
		{twoGain, "gains 0 1"},
		{twoFair, "holds 2 1"},
		{twoLose, "holds 12 5"},
		{evenTable(2, 144), "gains 0 1"},
		{evenTable(2, 1), "holds 12 1"},
		{[][]int{{12, 144}, {1, 12}}, "holds 12 1"},
		{[][]int{{12, 1}, {144, 12}}, "holds 1 12"},
		{[][]int{{12, 144}, {2, 12}}, "gains 0 1"},
		// The first round that gains is not the one that gains most, or not one that begins with 0.
		{threeMix, "gains 0 1 2"},
		{evenTable(3, 13), "gains 0 1"},
		{[][]int{{12, 13, 144}, {12, 12, 144}, {144, 144, 12}}, "gains 0 1"},
		{[][]int{{12, 1, 13}, {1, 12, 1}, {12, 1, 12}}, "gains 0 2"},
		{[][]int{{12, 1, 1}, {1, 12, 12}, {1, 13, 12}}, "gains 1 2"},
		{[][]int{{12, 1, 12}, {12, 12, 1}, {1, 13, 12}}, "gains 0 2 1"},
		{threeFair, "holds 1 2 3"},
		{threeEven, "holds 2 3 4"},
		{detour, "holds 6 5 5"},
		{fiveFair, "holds 1 2 3 4 6"},
		{evenTable(5, 12), "holds 1 1 1 1 1"},
		{evenTable(5, 11), "holds 12 11 11 11 11"},
		{evenTable(5, 1), "holds 12 1 1 1 1"},
		{evenTable(5, 13), "gains 0 1"},
		{evenTable(5, 144), "gains 0 1"},
	} {
		wantRateProof(t, c.a, c.want)
		want := 0
		if c.want[0] == 'g' {
			want = 1
		}
		wantRateIs(t, c.a, c.want, want)
	}
}

func TestProofRateIsExamples(t *testing.T) {
	for _, c := range []struct {
		a    [][]int
		text string
		want int
	}{
		// All rounds that gain, and not the first one alone.
		{threeMix, "gains 0 1 2", 1},
		{threeMix, "gains 0 2", 1},
		{threeMix, "gains 1 2", 1},
		{evenTable(5, 13), "gains 3 4", 1},
		{evenTable(5, 13), "gains 0 4 2 1 3", 1},
		{evenTable(5, 13), "gains 1 4 3 2", 1},
		// Rounds that do not gain, be it that they are a unit or less.
		{threeMix, "gains 0 1", noProof},
		{threeMix, "gains 0 2 1", noProof},
		{twoFair, "gains 0 1", noProof},
		{twoLose, "gains 0 1", noProof},
		{evenTable(5, 12), "gains 0 1 2 3 4", noProof},
		// Moneys that are no round: with another first one, twice, none, too few, too many, and a money that is none.
		{twoGain, "gains 1 0", noProof},
		{threeMix, "gains 1 2 0", noProof},
		{threeMix, "gains 2 0", noProof},
		{twoGain, "gains 0 1 0", noProof},
		{twoGain, "gains 0 0", noProof},
		{twoGain, "gains 0", noProof},
		{twoGain, "gains 1", noProof},
		{twoGain, "gains 0 2", noProof},
		{twoGain, "gains 0 1 2", noProof},
		{twoGain, "gains 1 2", noProof},
		{evenTable(5, 13), "gains 0 5", noProof},
		{evenTable(5, 13), "gains 0 1 2 3 4 5", noProof},
		{evenTable(5, 13), "gains 0 1 2 3 3", noProof},
		{evenTable(5, 13), "gains 0 12", noProof},
		// All prices that hold, with a common divisor, and others than those of PriceFind.
		{twoFair, "holds 2 1", 0},
		{twoFair, "holds 14 7", 0},
		{twoFair, "holds 1000000000 500000000", 0},
		{twoLose, "holds 12 5", 0},
		{twoLose, "holds 24 10", 0},
		{twoLose, "holds 2 1", 0},
		{twoLose, "holds 23 10", 0},
		{detour, "holds 12 10 10", 0},
		{evenTable(5, 11), "holds 1 1 1 1 1", 0},
		{evenTable(2, 1), "holds 1 12", 0},
		// Prices that do not hold, for they differ by one, or stand in another order.
		{twoFair, "holds 1 2", noProof},
		{twoFair, "holds 1000000000 499999999", noProof},
		{twoFair, "holds 999999999 500000000", noProof},
		{twoLose, "holds 24 9", noProof},
		{twoLose, "holds 25 13", noProof},
		{evenTable(2, 1), "holds 1 13", noProof},
		{detour, "holds 12 9 9", noProof},
		{evenTable(5, 11), "holds 12 10 11 11 11", noProof},
		// Prices of no money, of one, and of other numbers of moneys.
		{twoFair, "holds 2", noProof},
		{twoFair, "holds 2 1 1", noProof},
		{twoFair, "holds 21", noProof},
		{threeFair, "holds 1 2", noProof},
		{threeFair, "holds 1 2 3 4", noProof},
		{evenTable(5, 12), "holds 1 1 1 1 1 1", noProof},
		{evenTable(5, 12), "holds 1 1 1 1", noProof},
		// A proof of the one kind where the other one is true.
		{twoGain, "holds 2 1", noProof},
		{twoGain, "holds 12 7", noProof},
		{twoGain, "holds 1 1", noProof},
		{threeMix, "holds 1 1 1", noProof},
		{evenTable(5, 13), "holds 1 1 1 1 1", noProof},
		{evenTable(5, 1), "gains 0 1 2 3 4", noProof},
		{threeFair, "gains 0 1 2", noProof},
	} {
		wantRateIs(t, c.a, c.text, c.want)
		if got := rateProofByTelling(c.a, roundsThatGain(c.a), c.text); got != c.want {
			t.Errorf("the own reading of %q for %v is %d", c.text, c.a, got)
		}
	}
}

// TestProofPriceLimits has the least and the greatest prices at each place, and those just outside.
func TestProofPriceLimits(t *testing.T) {
	for n := 2; n <= impl.MoneyMax; n++ {
		for _, c := range []struct {
			x  int
			in bool
		}{{-1, false}, {0, false}, {1, true}, {2, true}, {mostPrice - 1, true}, {mostPrice, true}, {mostPrice + 1, false}, {2 * mostPrice, false}, {1 << 32, false}, {1<<32 + 1, false}, {1 << 62, false}} {
			want := noProof
			if c.in {
				want = 0
			}
			wantRateIs(t, evenTable(n, 12), proofText("holds", slices.Repeat([]int{c.x}, n)), want)
			for place := range n {
				p := slices.Repeat([]int{min(max(c.x, 1), mostPrice)}, n)
				p[place] = c.x
				wantRateIs(t, evenTable(n, 12), proofText("holds", p), want)
				wantRateIs(t, evenTable(n, 1), proofText("holds", p), want)
			}
		}
		least, most := slices.Repeat([]int{1}, n), slices.Repeat([]int{mostPrice}, n)
		least[n-1], most[0] = mostPrice, mostPrice-1
		wantRateIs(t, evenTable(n, 1), proofText("holds", least), noProof)
		wantRateIs(t, evenTable(n, 12), proofText("holds", most), noProof)
		wantRateIs(t, evenTable(n, 11), proofText("holds", most), 0)
	}
}

// TestProofMoneyLimits has each number of moneys around that of the table at each place of a round.
func TestProofMoneyLimits(t *testing.T) {
	for n := 2; n <= impl.MoneyMax; n++ {
		a := evenTable(n, 144)
		gaining := roundsThatGain(a)
		for length := range n + 2 {
			for _, list := range listsOver(length, 0, n) {
				want := noProof
				if hasRow(gaining, list) {
					want = 1
				}
				wantRateIs(t, a, proofText("gains", list), want)
			}
		}
	}
}

// TestProofsOfTwoMoneys has all tables of two moneys.
func TestProofsOfTwoMoneys(t *testing.T) {
	for x := 1; x <= 144; x++ {
		for y := 1; y <= 144; y++ {
			a := [][]int{{12, x}, {y, 12}}
			if x*y > 144 {
				wantRateProof(t, a, "gains 0 1")
				wantRateIs(t, a, "gains 0 1", 1)
			} else {
				wantRateProof(t, a, proofText("holds", withoutDivisor([]int{12, y})))
				wantRateIs(t, a, "gains 0 1", noProof)
			}
			for _, p := range [][]int{{12, y}, {x, 12}, {x, 11}, {12, y + 1}, {1, 1}, {3, 2}} {
				want := noProof
				if x*p[1] <= 12*p[0] && y*p[0] <= 12*p[1] {
					want = 0
				}
				wantRateIs(t, a, proofText("holds", p), want)
			}
		}
	}
}

// TestRateProofsByTelling holds samples of tables against the definitions, with prices near to those that hold and others.
func TestRateProofsByTelling(t *testing.T) {
	d := dice(600)
	gains, holds := 0, 0
	for _, a := range append(sampleTables(), threeMix, fiveMix, detour, threeEven, fiveFair) {
		steps := withoutDivisor(stepsBack(a))
		prices := [][]int{steps, allTimes(steps, 2), allTimes(steps, mostPrice/slices.Max(steps)), withoutDivisor(firstColumn(a)), slices.Repeat([]int{1}, len(a)), randomPrices(&d, len(a), 12), randomPrices(&d, len(a), mostPrice), append(slices.Clone(steps), 1), steps[1:]}
		for i := range steps {
			more, less := slices.Clone(steps), slices.Clone(steps)
			more[i]++
			less[i]--
			prices = append(prices, more, less)
		}
		wantRateProofs(t, a, prices)
		if impl.RateGains(a) {
			gains++
		} else {
			holds++
		}
	}
	wantBoth(t, "a table has a round that gains", gains, gains+holds)
}

// TestProofRateAgrees has the proof made of what the functions of the chapters before return.
func TestProofRateAgrees(t *testing.T) {
	for _, a := range sampleTables() {
		ring, gains := impl.RateFirst(a)
		prices, holds := impl.PriceFind(a)
		switch {
		case gains == holds:
			t.Errorf("RateFirst(%v) = %v, %t, PriceFind = %v, %t", a, ring, gains, prices, holds)
		case gains:
			wantRateProof(t, a, proofText("gains", ring))
		default:
			wantRateProof(t, a, proofText("holds", prices))
		}
	}
}

func TestProofBlockExamples(t *testing.T) {
	for _, c := range []struct {
		w    [][]int
		g    []int
		want string
	}{
		{[][]int{{1, 0}, {0, 1}}, []int{0, 1}, "block 1 0"},
		{[][]int{{0, 1}, {0, 1}}, []int{1, 0}, "block 0 1"},
		// Firm givings.
		{[][]int{{1, 0}, {0, 1}}, []int{1, 0}, ""},
		{[][]int{{0, 1}, {1, 0}}, []int{0, 1}, ""},
		{[][]int{{0, 1}, {0, 1}}, []int{0, 1}, ""},
		{threeSwap, []int{1, 0, 2}, ""},
		{threeRing, []int{1, 2, 0}, ""},
		{fiveRing, []int{1, 2, 3, 4, 0}, ""},
		{fiveAlike, []int{0, 1, 2, 3, 4}, ""},
		// 0 and 1 exchange their houses, which leaves 2 the own one.
		{threeSwap, []int{0, 1, 2}, "block 1 0 2"},
		// 1 takes back the own house; what the others get is told in the first way that there is.
		{threeSwap, []int{1, 2, 0}, "block 0 1 2"},
		{threeSwap, []int{0, 2, 1}, "block 0 1 2"},
		{threeRing, []int{0, 1, 2}, "block 1 2 0"},
		{fourPairs, []int{1, 0, 2, 3}, "block 0 1 3 2"},
		// The first list is that of the set 2 and 3, and not that of a lesser set.
		{fourPairs, []int{0, 1, 2, 3}, "block 0 1 3 2"},
		{fiveRing, []int{0, 1, 2, 3, 4}, "block 1 2 3 4 0"},
		{fiveAlike, []int{3, 1, 2, 0, 4}, "block 0 1 2 3 4"},
		// Each of 3 and 4 takes back the own house.
		{fiveOwn, []int{0, 1, 2, 4, 3}, "block 0 1 2 3 4"},
	} {
		wantBlockProof(t, c.w, c.g, c.want)
		if want := firstProof("block", blockingByTelling(c.w, c.g)); want != c.want {
			t.Errorf("the own proof against %v for %v is %q", c.g, c.w, want)
		}
		if c.want != "" && !impl.ProofBlockIs(c.w, c.g, c.want) {
			t.Errorf("ProofBlockIs(%v, %v, %q) does not hold", c.w, c.g, c.want)
		}
	}
}

func TestProofBlockIsExamples(t *testing.T) {
	for _, c := range []struct {
		w    [][]int
		g    []int
		text string
		want bool
	}{
		// Nobody likes anything less, and nobody better.
		{threeSwap, []int{0, 1, 2}, "block 0 1 2", false},
		{threeSwap, []int{1, 0, 2}, "block 1 0 2", false},
		// By an exchange of 0 and 1, one of them is better off, and the other one gets what the giving has.
		{threeSwap, []int{1, 2, 0}, "block 1 0 2", true},
		{threeSwap, []int{2, 0, 1}, "block 1 0 2", true},
		// 1 alone is better off with the own house, whatever the others get: in the first list, none of them gets what the giving has.
		{threeSwap, []int{1, 2, 0}, "block 0 1 2", true},
		{threeSwap, []int{1, 2, 0}, "block 2 1 0", true},
		// All of them together, some of whom would like it less.
		{threeSwap, []int{1, 0, 2}, "block 2 0 1", false},
		{threeSwap, []int{1, 0, 2}, "block 1 2 0", false},
		// 2 would be better off by an exchange with 0, who would like it less.
		{threeSwap, []int{1, 0, 2}, "block 2 1 0", false},
		// 0 would be better off by an exchange with 1, who would like it less.
		{[][]int{{1, 0}, {1, 0}}, []int{0, 1}, "block 1 0", false},
		// 3 takes back the house that all like best, with any houses for the others.
		{fiveAlike, []int{3, 1, 2, 0, 4}, "block 0 1 2 3 4", true},
		{fiveAlike, []int{3, 1, 2, 0, 4}, "block 4 2 1 3 0", true},
		{fiveAlike, []int{3, 1, 2, 0, 4}, "block 1 0 4 3 2", true},
		// 1 and 3 exchange theirs, which 1 likes better than the own one, and 3 better than that of 0.
		{fiveAlike, []int{3, 1, 2, 0, 4}, "block 0 3 2 1 4", true},
		// 2 and 3 exchange theirs, but 3 likes that of 2 less than that of 0.
		{fiveAlike, []int{3, 1, 2, 0, 4}, "block 0 1 3 2 4", false},
		// Lists that are no givings, though some set is better off by them.
		{threeSwap, []int{0, 1, 2}, "block 1 0", false},
		{threeSwap, []int{0, 1, 2}, "block 1 0 2 3", false},
		{threeSwap, []int{0, 1, 2}, "block 1 0 3", false},
		{threeSwap, []int{0, 1, 2}, "block 1 0 0", false},
		{threeSwap, []int{0, 1, 2}, "block 1 0 1", false},
		{threeSwap, []int{0, 1, 2}, "block 1 0 2 2", false},
		{threeSwap, []int{0, 1, 2}, "block 1 0 2 0 1 2", false},
		{threeSwap, []int{0, 1, 2}, "block 1", false},
		{threeSwap, []int{0, 1, 2}, "block 102", false},
		{fiveAlike, []int{3, 1, 2, 0, 4}, "block 0 0 0 3 0", false},
		{fiveAlike, []int{3, 1, 2, 0, 4}, "block 0 1 2 3 5", false},
		{fiveAlike, []int{3, 1, 2, 0, 4}, "block 0 1 2 3", false},
		{[][]int{{1, 0}, {0, 1}}, []int{0, 1}, "block 1 0", true},
		{[][]int{{1, 0}, {0, 1}}, []int{0, 1}, "block 1 1", false},
		{[][]int{{1, 0}, {0, 1}}, []int{0, 1}, "block 1 2", false},
		{[][]int{{1, 0}, {0, 1}}, []int{0, 1}, "block 1 0 2", false},
	} {
		if got := impl.ProofBlockIs(c.w, c.g, c.text); got != c.want {
			t.Errorf("ProofBlockIs(%v, %v, %q) = %t", c.w, c.g, c.text, got)
		}
		_, numbers := readByForm(c.text)
		if hasRow(blockingByTelling(c.w, c.g), numbers) != c.want {
			t.Errorf("the own reading of %q for %v and %v is not %t", c.text, c.w, c.g, c.want)
		}
	}
}

func TestProofTurnExamples(t *testing.T) {
	for _, c := range []struct {
		w    [][]int
		g    []int
		want string
	}{
		{[][]int{{1, 0}, {0, 1}}, []int{1, 0}, "turns 0 1"},
		{[][]int{{0, 1}, {0, 1}}, []int{1, 0}, "turns 1 0"},
		{threeSwap, []int{1, 0, 2}, "turns 0 1 2"},
		{threeSwap, []int{1, 2, 0}, "turns 0 2 1"},
		{threeSwap, []int{2, 1, 0}, "turns 2 1 0"},
		{fourPairs, []int{1, 0, 3, 2}, "turns 0 1 2 3"},
		{fiveRing, []int{1, 2, 3, 4, 0}, "turns 0 1 2 3 4"},
		// The order is not the giving.
		{fiveAlike, []int{0, 1, 2, 3, 4}, "turns 3 1 4 0 2"},
		{fiveAlike, []int{3, 1, 4, 0, 2}, "turns 0 1 2 3 4"},
		{fiveChain, []int{0, 1, 2, 3, 4}, "turns 4 3 2 1 0"},
		{fiveChain, []int{1, 2, 3, 4, 0}, "turns 0 1 2 3 4"},
		// Givings that are not good.
		{[][]int{{1, 0}, {0, 1}}, []int{0, 1}, ""},
		{threeSwap, []int{0, 1, 2}, ""},
		{threeSwap, []int{0, 2, 1}, ""},
		{threeRing, []int{1, 0, 2}, ""},
		{fiveOwn, []int{1, 0, 2, 3, 4}, ""},
	} {
		wantTurnProof(t, c.w, c.g, c.want)
		if c.want != "" && !impl.ProofTurnIs(c.w, c.g, c.want) {
			t.Errorf("ProofTurnIs(%v, %v, %q) does not hold", c.w, c.g, c.want)
		}
	}
}

func TestProofTurnIsExamples(t *testing.T) {
	for _, c := range []struct {
		w    [][]int
		g    []int
		text string
		want bool
	}{
		// All orders in which a giving comes, and not the first one alone.
		{threeSwap, []int{1, 0, 2}, "turns 0 1 2", true},
		{threeSwap, []int{1, 0, 2}, "turns 1 0 2", true},
		{threeSwap, []int{1, 0, 2}, "turns 1 2 0", true},
		{threeSwap, []int{1, 0, 2}, "turns 0 2 1", false},
		{threeSwap, []int{1, 0, 2}, "turns 2 0 1", false},
		{threeSwap, []int{1, 0, 2}, "turns 2 1 0", false},
		{fiveRing, []int{1, 2, 3, 4, 0}, "turns 4 2 0 3 1", true},
		{fiveAlike, []int{0, 1, 2, 3, 4}, "turns 3 1 4 0 2", true},
		{fiveAlike, []int{0, 1, 2, 3, 4}, "turns 3 1 4 2 0", false},
		// The giving instead of an order.
		{fiveAlike, []int{3, 1, 4, 0, 2}, "turns 3 1 4 0 2", false},
		{fiveAlike, []int{3, 1, 4, 0, 2}, "turns 0 1 2 3 4", true},
		// A giving that is not good comes in no order.
		{threeSwap, []int{0, 1, 2}, "turns 0 1 2", false},
		// Orders with a person twice, a person who is none, one too few, and one too many.
		{threeSwap, []int{1, 0, 2}, "turns 0 1 1", false},
		{threeSwap, []int{1, 0, 2}, "turns 0 0 1", false},
		{threeSwap, []int{1, 0, 2}, "turns 0 1", false},
		{threeSwap, []int{1, 0, 2}, "turns 0", false},
		{threeSwap, []int{1, 0, 2}, "turns 0 1 2 0", false},
		{threeSwap, []int{1, 0, 2}, "turns 0 1 2 3", false},
		{threeSwap, []int{1, 0, 2}, "turns 0 1 3", false},
		{threeSwap, []int{1, 0, 2}, "turns 0 1 2 0 1 2", false},
		{threeSwap, []int{1, 0, 2}, "turns 012", false},
		{fiveRing, []int{1, 2, 3, 4, 0}, "turns 0 1 2 3", false},
		{fiveRing, []int{1, 2, 3, 4, 0}, "turns 0 1 2 3 4 5", false},
		{fiveRing, []int{1, 2, 3, 4, 0}, "turns 0 1 2 3 5", false},
		{[][]int{{1, 0}, {0, 1}}, []int{1, 0}, "turns 1 0", true},
		{[][]int{{1, 0}, {0, 1}}, []int{1, 0}, "turns 1 1", false},
		{[][]int{{1, 0}, {0, 1}}, []int{1, 0}, "turns 0 1 2", false},
		{[][]int{{1, 0}, {0, 1}}, []int{0, 1}, "turns 0 1", false},
	} {
		if got := impl.ProofTurnIs(c.w, c.g, c.text); got != c.want {
			t.Errorf("ProofTurnIs(%v, %v, %q) = %t", c.w, c.g, c.text, got)
		}
	}
}

// TestHouseProofsByTelling has all givings of all wishes of two and of three people, and of samples of more.
func TestHouseProofsByTelling(t *testing.T) {
	for _, w := range append(sampleWishes(1), fiveTurns, fiveChain, fiveCircle, fiveOwn, fourPairs, likeOwnLeast(4), likeOwnLeast(5)) {
		wantHouseProofsByTelling(t, w)
	}
}

// TestHouseSamplesDiffer has the samples tell all kinds of givings apart.
func TestHouseSamplesDiffer(t *testing.T) {
	all, good, firm, several, blockedBySome := 0, 0, 0, 0, 0
	for _, w := range sampleWishes(1) {
		taken := allTakenByTelling(w)
		for _, g := range ordersOf[len(w)] {
			blocking, orders := blockingByTelling(w, g), ordersByTelling(taken, g)
			all++
			if len(orders) > 0 {
				good++
			}
			if len(orders) > 1 && len(orders) < len(taken) {
				several++
			}
			if len(blocking) == 0 {
				firm++
			}
			if len(orders) > 0 && len(blocking) > 0 {
				blockedBySome++
			}
		}
	}
	wantBoth(t, "a giving is good", good, all)
	wantBoth(t, "a giving is firm", firm, all)
	wantBoth(t, "a giving comes in several orders, and not in all", several, all)
	wantBoth(t, "a good giving is blocked", blockedBySome, good)
}

// TestProofsOfAlikeWishes has each giving come in one order alone, and all but one blocked, if all people wish alike.
func TestProofsOfAlikeWishes(t *testing.T) {
	for n := 2; n <= impl.PeopleMax; n++ {
		for _, best := range [][]int{countUp(n), backwards(countUp(n)), ordersOf[n][1]} {
			w := allAlike(best)
			for _, g := range ordersOf[n] {
				order := make([]int, n)
				for i, house := range best {
					order[i] = slices.Index(g, house)
				}
				wantTurnProof(t, w, g, proofText("turns", order))
				want := ""
				if !slices.Equal(g, countUp(n)) {
					want = firstProof("block", blockingByTelling(w, g))
				}
				wantBlockProof(t, w, g, want)
			}
		}
	}
}

// askForProofs holds all answers about a table and a giving of wishes against the definitions.
func askForProofs(t *testing.T, a [][]int, w [][]int, g []int) {
	t.Helper()
	wantRateProofs(t, a, [][]int{slices.Repeat([]int{1}, len(a))})
	wantHouseProofs(t, w, g, blockingByTelling(w, g), ordersByTelling(allTakenByTelling(w), g))
}

// TestProofsAnswerAfresh asks for different tables and givings behind each other, for texts that are none between, and for the first ones again.
func TestProofsAnswerAfresh(t *testing.T) {
	d := dice(610)
	tables := [][][]int{twoGain, twoFair, twoLose, threeMix, threeFair, detour, evenTable(4, 11), evenTable(4, 13), fiveFair, fiveMix}
	wishes := [][][]int{{{1, 0}, {0, 1}}, {{0, 1}, {0, 1}}, threeSwap, threeRing, fourPairs, fiveTurns, fiveAlike, fiveChain}
	for range 60 {
		a, b := tables[d.below(len(tables))], tables[d.below(len(tables))]
		w, x := wishes[d.below(len(wishes))], wishes[d.below(len(wishes))]
		g, h := randomOrder(&d, len(w)), randomOrder(&d, len(x))
		askForProofs(t, a, w, g)
		wantNoText(t, b, x, h, "gains 0 1 ")
		askForProofs(t, b, x, h)
		wantNoText(t, a, w, g, "")
		askForProofs(t, a, w, g)
	}
}

// TestProofsSideBySide has several callers ask for the same proofs and for others at the same time.
func TestProofsSideBySide(t *testing.T) {
	var callers sync.WaitGroup
	for i := range 24 {
		callers.Go(func() {
			d := dice(620 + i/2)
			for range 10 {
				a, w := randomTable(&d, 2+i%4), randomWishes(&d, 2+i%3)
				askForProofs(t, a, w, randomOrder(&d, len(w)))
			}
		})
	}
	callers.Wait()
}
