package tests

import (
	"runtime"
	"slices"
	"sync"
	"testing"
	"testing/synctest"

	"loop.example/tradecircles/impl"
)

// TestTurnsOfTwo has all wishes of two people, with what is told of each of both givings.
func TestTurnsOfTwo(t *testing.T) {
	zeroFirst, oneFirst := []int{0, 1}, []int{1, 0}
	keeping, changed := []int{0, 1}, []int{1, 0}
	for _, c := range []struct {
		w           [][]int
		byZeroFirst []int
		byOneFirst  []int
	}{
		{[][]int{{0, 1}, {0, 1}}, keeping, changed},
		{[][]int{{0, 1}, {1, 0}}, keeping, keeping},
		{[][]int{{1, 0}, {0, 1}}, changed, changed},
		{[][]int{{1, 0}, {1, 0}}, changed, keeping},
	} {
		g, ok := impl.TurnTake(c.w, zeroFirst)
		wantList(t, "TurnTake", g, ok, c.byZeroFirst)
		g, ok = impl.TurnTake(c.w, oneFirst)
		wantList(t, "TurnTake", g, ok, c.byOneFirst)
		if slices.Equal(c.byZeroFirst, c.byOneFirst) {
			wantGivings(t, c.w, [][]int{c.byZeroFirst})
			wantComes(t, c.w, c.byZeroFirst, zeroFirst, 2, 2)
			other := []int{1 - c.byZeroFirst[0], 1 - c.byZeroFirst[1]}
			wantComes(t, c.w, other, nil, 0, 0)
		} else {
			wantGivings(t, c.w, [][]int{keeping, changed})
			wantComes(t, c.w, c.byZeroFirst, zeroFirst, 1, 1)
			wantComes(t, c.w, c.byOneFirst, oneFirst, 1, 1)
		}
	}
}

func TestTurnTakeExamples(t *testing.T) {
	for _, c := range []struct {
		w      [][]int
		order  []int
		giving []int
	}{
		{threeSwap, []int{0, 1, 2}, []int{1, 0, 2}},
		{threeSwap, []int{0, 2, 1}, []int{1, 2, 0}},
		{threeSwap, []int{1, 0, 2}, []int{1, 0, 2}},
		{threeSwap, []int{1, 2, 0}, []int{1, 0, 2}},
		{threeSwap, []int{2, 0, 1}, []int{1, 2, 0}},
		{threeSwap, []int{2, 1, 0}, []int{2, 1, 0}},
		{threeRing, []int{2, 1, 0}, []int{1, 2, 0}},
		{fourPairs, []int{0, 3, 2, 1}, []int{1, 0, 3, 2}},
		// The order tells who takes, and the giving what each one gets: these are not the same.
		{fiveAlike, []int{0, 1, 2, 3, 4}, []int{3, 1, 4, 0, 2}},
		{fiveAlike, []int{1, 2, 3, 4, 0}, []int{2, 3, 1, 4, 0}},
		{fiveAlike, []int{4, 0, 2, 3, 1}, []int{1, 2, 4, 0, 3}},
		// All of them like 2 best, so whoever is the first one takes it.
		{fiveTurns, []int{2, 4, 0, 1, 3}, []int{1, 0, 2, 4, 3}},
		{fiveTurns, []int{3, 1, 4, 0, 2}, []int{1, 0, 4, 2, 3}},
		{fiveTurns, []int{0, 1, 2, 3, 4}, []int{2, 0, 1, 4, 3}},
		{fiveRing, []int{4, 2, 0, 3, 1}, []int{1, 2, 3, 4, 0}},
		{fiveOwn, []int{3, 0, 4, 1, 2}, []int{0, 1, 2, 3, 4}},
		{fiveChain, []int{0, 1, 2, 3, 4}, []int{1, 2, 3, 4, 0}},
		{fiveChain, []int{4, 3, 2, 1, 0}, []int{0, 1, 2, 3, 4}},
	} {
		g, ok := impl.TurnTake(c.w, c.order)
		wantList(t, "TurnTake", g, ok, c.giving)
	}
}

func TestTurnComesExamples(t *testing.T) {
	for _, c := range []struct {
		w     [][]int
		g     []int
		first []int
		many  int
		happy int
	}{
		// In some orders, the first one of which begins with 0.
		{threeSwap, []int{1, 0, 2}, []int{0, 1, 2}, 3, 2},
		{threeSwap, []int{1, 2, 0}, []int{0, 2, 1}, 2, 2},
		// In one order alone, which begins with another one.
		{threeSwap, []int{2, 1, 0}, []int{2, 1, 0}, 1, 1},
		// Here 0 and 1 would both like an exchange, then 0 and 2 as well as 1 and 2, then 0 and 2 alone.
		{threeSwap, []int{0, 1, 2}, nil, 0, 0},
		{threeSwap, []int{0, 2, 1}, nil, 0, 0},
		{threeSwap, []int{2, 0, 1}, nil, 0, 1},
		// A circle of three would be liked better, and no exchange by two.
		{threeRing, []int{0, 1, 2}, nil, 0, 0},
		{threeRing, []int{1, 2, 0}, []int{0, 1, 2}, 6, 3},
		{threeRing, []int{1, 0, 2}, nil, 0, 1},
		// Two exchanges by two.
		{fourPairs, []int{0, 1, 2, 3}, nil, 0, 0},
		{fourPairs, []int{1, 0, 3, 2}, []int{0, 1, 2, 3}, 24, 4},
		// A circle of five.
		{fiveRing, []int{0, 1, 2, 3, 4}, nil, 0, 0},
		{fiveRing, []int{1, 2, 3, 4, 0}, []int{0, 1, 2, 3, 4}, 120, 5},
		{fiveOwn, []int{0, 1, 2, 3, 4}, []int{0, 1, 2, 3, 4}, 120, 5},
		{fiveOwn, []int{1, 0, 2, 3, 4}, nil, 0, 3},
		// A circle of four alone, as 1 has the house liked best.
		{fiveOwn, []int{2, 1, 3, 4, 0}, nil, 0, 1},
		// Each giving comes in one order alone: that in which they like what they get.
		{fiveAlike, []int{3, 1, 4, 0, 2}, []int{0, 1, 2, 3, 4}, 1, 1},
		{fiveAlike, []int{0, 1, 2, 3, 4}, []int{3, 1, 4, 0, 2}, 1, 1},
		{fiveAlike, []int{2, 0, 4, 1, 3}, []int{4, 3, 2, 1, 0}, 1, 1},
		// 4 takes ahead of 3, who takes ahead of 2, and so on.
		{fiveChain, []int{0, 1, 2, 3, 4}, []int{4, 3, 2, 1, 0}, 1, 1},
		// 3 takes ahead of 4, and nobody else has to wait.
		{fiveChain, []int{1, 2, 3, 4, 0}, []int{0, 1, 2, 3, 4}, 60, 4},
	} {
		wantComes(t, c.w, c.g, c.first, c.many, c.happy)
	}
}

func TestTurnGivingsExamples(t *testing.T) {
	for _, c := range []struct {
		w      [][]int
		goods  [][]int
		orders []int
	}{
		{threeSwap, [][]int{{1, 0, 2}, {1, 2, 0}, {2, 1, 0}}, []int{3, 2, 1}},
		{threeRing, [][]int{{1, 2, 0}}, []int{6}},
		// The order in which they come first is not that of lists.
		{allAlike([]int{2, 0, 1}), ordersOf[3], []int{1, 1, 1, 1, 1, 1}},
		{fourPairs, [][]int{{1, 0, 3, 2}}, []int{24}},
		{fiveRing, [][]int{{1, 2, 3, 4, 0}}, []int{120}},
		{fiveOwn, [][]int{{0, 1, 2, 3, 4}}, []int{120}},
		{fiveAlike, ordersOf[5], slices.Repeat([]int{1}, 120)},
		// If 3 takes ahead of 4, all but 4 are happy; if not, 3 takes 0, or, ahead of 2, leaves it to 2, and so on.
		{fiveChain, [][]int{{0, 1, 2, 3, 4}, {1, 0, 2, 3, 4}, {1, 2, 0, 3, 4}, {1, 2, 3, 0, 4}, {1, 2, 3, 4, 0}}, []int{1, 4, 15, 40, 60}},
	} {
		wantGivings(t, c.w, c.goods)
		for i, many := range c.orders {
			if got := manyOf(t, c.w, c.goods[i]); got != many {
				t.Errorf("TurnMany(%v, %v) = %d, want %d", c.w, c.goods[i], got, many)
			}
		}
	}
}

// TestTurnsByTelling tries all orders and all givings.
func TestTurnsByTelling(t *testing.T) {
	for _, w := range slices.Concat(sampleWishes(5), [][][]int{fiveTurns, fiveChain, fiveCircle, fivePairs, fiveLong, likeOwnLeast(4), likeOwnLeast(5)}) {
		wantTurnsByTelling(t, w)
	}
}

// TestTurnSamplesDiffer has samples in which givings come in no order, in one, in some and in all, and in which nobody, some and all are happy.
func TestTurnSamplesDiffer(t *testing.T) {
	for n := 2; n <= impl.PeopleMax; n++ {
		many, happy, apart := map[int]bool{}, map[int]bool{}, false
		for _, w := range someWishes(n, 5) {
			for _, g := range ordersOf[n] {
				many[manyOf(t, w, g)] = true
				happy[happyOf(t, w, g)] = true
				// These are not good, and no exchange by two shows it.
				apart = apart || impl.SwapStill(w, g) && !impl.TurnGood(w, g)
			}
		}
		all := len(ordersOf[n])
		if !many[0] || !many[1] || !many[all] || n > 2 && !many[2] || n > 2 && len(many) < 5 {
			t.Errorf("givings for %d people come in these numbers of orders: %v", n, many)
		}
		if !happy[0] || !happy[1] || !happy[n] {
			t.Errorf("these numbers of %d people are happy: %v", n, happy)
		}
		if n > 2 && !apart {
			t.Errorf("all still givings of the samples for %d people are good", n)
		}
	}
}

// TestTurnOrderIsFirst has givings that come in several orders: the first one may begin with any person.
func TestTurnOrderIsFirst(t *testing.T) {
	begins := map[int]bool{}
	for _, w := range sampleWishes(5) {
		taken := allTakenByTelling(w)
		for _, g := range goodsByTelling(w) {
			orders := ordersByTelling(taken, g)
			if len(orders) == 1 {
				continue
			}
			order, ok := impl.TurnOrder(w, g)
			wantList(t, "TurnOrder", order, ok, slices.MinFunc(orders, slices.Compare))
			begins[order[0]] = true
		}
	}
	for person := range impl.PeopleMax - 1 {
		if !begins[person] {
			t.Errorf("no first one of several orders begins with %d", person)
		}
	}
}

// TestTurnsNeedNoOwners calls people by other numbers: nobody owns a house, so each one gets what the same wishes got.
func TestTurnsNeedNoOwners(t *testing.T) {
	d := dice(70)
	for range 200 {
		n := 2 + d.below(4)
		w, order, names := randomWishes(&d, n), randomOrder(&d, n), randomOrder(&d, n)
		renamed, reordered, want := make([][]int, n), make([]int, n), make([]int, n)
		g := takenHouses(t, w, order)
		for i, name := range names {
			renamed[name] = w[i]
			want[name] = g[i]
			reordered[slices.Index(order, i)] = name
		}
		got, ok := impl.TurnTake(renamed, reordered)
		wantList(t, "TurnTake of other numbers", got, ok, want)
		if impl.TurnGood(renamed, want) != impl.TurnGood(w, g) || manyOf(t, renamed, want) != manyOf(t, w, g) || happyOf(t, renamed, want) != happyOf(t, w, g) {
			t.Errorf("%v of %v is told to be another one than %v of %v", want, renamed, g, w)
		}
	}
}

// TestTurnsAnswerAfresh asks for different wishes behind each other, and for the first ones again.
func TestTurnsAnswerAfresh(t *testing.T) {
	d := dice(80)
	samples := [][][]int{fiveTurns, threeRing, fiveAlike, threeEnds, fourPairs, {{1, 0}, {0, 1}}, fiveChain, {{1, 0}, {1, 0}}, threeSwap, fiveRing}
	for range 100 {
		wantTurnsByTelling(t, samples[d.below(len(samples))])
	}
}

// wantSameAgain asks again and again for what is told of some wishes.
func wantSameAgain(t *testing.T, w [][]int, times int) {
	goods, taken := goodsByTelling(w), allTakenByTelling(w)
	last := goods[len(goods)-1]
	orders := ordersByTelling(taken, last)
	for range times {
		wantGivings(t, w, goods)
		wantComes(t, w, last, orders[0], len(orders), happyByTelling(w, last))
	}
}

// TestTurnsOnFewProcessors has goroutines take turns on one processor, and run side by side on more.
func TestTurnsOnFewProcessors(t *testing.T) {
	defer runtime.GOMAXPROCS(runtime.GOMAXPROCS(0))
	for _, count := range []int{1, 2, 3, 8, 32} {
		runtime.GOMAXPROCS(count)
		for _, w := range [][][]int{{{1, 0}, {1, 0}}, threeSwap, fourPairs, fiveTurns, fiveAlike, fiveChain} {
			wantSameAgain(t, w, 50)
		}
	}
}

// TestTurnsSideBySide has several callers ask for the same wishes and for others at the same time.
func TestTurnsSideBySide(t *testing.T) {
	var callers sync.WaitGroup
	samples := [][][]int{fiveAlike, fiveTurns, {{0, 1}, {0, 1}}, threeSwap, fourPairs, fiveChain}
	for i := range 4 * len(samples) {
		callers.Go(func() { wantSameAgain(t, samples[i%len(samples)], 20) })
	}
	callers.Wait()
}

// TestTurnsLeaveNoGoroutines is in a bubble, which fails if any goroutine that is begun in it waits for ever.
func TestTurnsLeaveNoGoroutines(t *testing.T) {
	for _, w := range [][][]int{{{1, 0}, {1, 0}}, threeSwap, fourPairs, fiveTurns, fiveAlike, fiveRing, {{0}}, nil} {
		synctest.Test(t, func(t *testing.T) {
			for _, g := range [][]int{{0, 1}, {0, 1, 2}, {1, 0, 3, 2}, {3, 1, 4, 0, 2}, {0, 1, 2, 3, 4}, nil} {
				callAllTurns(w, g)
			}
		})
	}
}
