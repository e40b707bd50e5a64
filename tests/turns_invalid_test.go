package tests

import (
	"math"
	"slices"
	"testing"

	"loop.example/tradecircles/impl"
)

// wantNoTurns has all functions that take a giving or an order fail with zero values.
func wantNoTurns(t *testing.T, w [][]int, list []int) {
	t.Helper()
	if impl.TurnGood(w, list) {
		t.Errorf("TurnGood(%v, %v) holds", w, list)
	}
	if g, ok := impl.TurnTake(w, list); ok || len(g) != 0 {
		t.Errorf("TurnTake(%v, %v) = %v, %t", w, list, g, ok)
	}
	if order, ok := impl.TurnOrder(w, list); ok || len(order) != 0 {
		t.Errorf("TurnOrder(%v, %v) = %v, %t", w, list, order, ok)
	}
	if count, ok := impl.TurnMany(w, list); ok || count != 0 {
		t.Errorf("TurnMany(%v, %v) = %d, %t", w, list, count, ok)
	}
	if count, ok := impl.TurnHappy(w, list); ok || count != 0 {
		t.Errorf("TurnHappy(%v, %v) = %d, %t", w, list, count, ok)
	}
}

func wantNoGoods(t *testing.T, w [][]int) {
	t.Helper()
	if all, ok := impl.TurnAll(w); ok || len(all) != 0 {
		t.Errorf("TurnAll(%v) = %v, %t", w, all, ok)
	}
	if goods, ok := impl.TurnGoods(w); ok || len(goods) != 0 {
		t.Errorf("TurnGoods(%v) = %v, %t", w, goods, ok)
	}
}

func TestTurnsOfNoWishes(t *testing.T) {
	tables := noWishes()
	for n := 2; n <= impl.PeopleMax; n++ {
		tables = append(tables, spoiledWishes(likeOwnLeast(n))...)
	}
	tables = append(tables, spoiledWishes(fiveOwn)...)
	for _, w := range tables {
		wantNoGoods(t, w)
		for n := 2; n <= impl.PeopleMax; n++ {
			wantNoTurns(t, w, countUp(n))
		}
		for _, list := range [][]int{nil, {0}, {1, 0}, {2, 0, 1}, {0, 1, 2, 3, 4, 5}} {
			wantNoTurns(t, w, list)
		}
	}
}

// TestTurnsOfNoLists spoils lists that are givings and orders, for wishes by which all givings are good and for others by which just one is.
func TestTurnsOfNoLists(t *testing.T) {
	d := dice(90)
	for n := 2; n <= impl.PeopleMax; n++ {
		for _, w := range [][][]int{allAlike(countUp(n)), withBest(&d, countUp(n)), likeOwnLeast(n), randomWishes(&d, n)} {
			for _, list := range [][]int{countUp(n), randomOrder(&d, n)} {
				for _, spoiled := range noOrders(list) {
					wantNoTurns(t, w, spoiled)
				}
			}
			for other := 2; other <= impl.PeopleMax; other++ {
				if other != n {
					wantNoTurns(t, w, countUp(other))
				}
			}
			wantNoTurns(t, w, []int{0})
			wantNoTurns(t, w, []int{0, 1, 2, 3, 4, 5})
		}
	}
}

// TestTurnsOfAnyLists tries all lists of up to one number too many, with numbers that are nobody on both sides.
func TestTurnsOfAnyLists(t *testing.T) {
	for n := 2; n <= 4; n++ {
		w := allAlike(countUp(n))
		for length := range n + 2 {
			for _, list := range listsOver(length, -1, n) {
				if length == n && allWithin(list, 0, n-1) && allDifferent(list) {
					g := takenHouses(t, w, list)
					wantComes(t, w, g, list, 1, 1)
				} else {
					wantNoTurns(t, w, list)
				}
			}
		}
	}
}

func callAllTurns(w [][]int, list []int) {
	impl.TurnTake(w, list)
	impl.TurnAll(w)
	impl.TurnGood(w, list)
	impl.TurnGoods(w)
	impl.TurnOrder(w, list)
	impl.TurnMany(w, list)
	impl.TurnHappy(w, list)
}

// TestTurnArgumentsStay also has any panic fail, for all kinds of arguments, valid or not.
func TestTurnArgumentsStay(t *testing.T) {
	lists := [][]int{nil, {0}, {0, 1}, {1, 0}, {0, 0}, {2, 1, 0}, {3, 0, 1, 2}, {0, 1, 2, 3, 4}, {4, 0, 3, 1, 2}, {0, 1, 2, 3, 4, 5}, {-1, 0}, {math.MaxInt, math.MinInt}}
	tables := slices.Concat(noWishes(), everyWishes(2), someWishes(3, 1), someWishes(4, 1), [][][]int{fiveAlike, fiveTurns, fiveRing})
	for _, rows := range tables {
		for _, numbers := range lists {
			w, list := roomyRows(rows), roomy(numbers)
			rowsBefore, listBefore := rowsWithRoom(w), withRoom(list)
			callAllTurns(w, list)
			if !sameRows(rowsBefore, rowsWithRoom(w)) || !slices.Equal(listBefore, withRoom(list)) {
				t.Fatalf("the arguments %v, %v have become %v, %v", rows, numbers, w, list)
			}
		}
	}
}

// turnResults has all lists that the chapter returns for an order and the giving that comes by turns in it.
func turnResults(t *testing.T, w [][]int, order []int) [][][]int {
	t.Helper()
	g := takenHouses(t, w, order)
	return [][][]int{{g, firstOrder(t, w, g)}, takenInAll(t, w), goodsOf(t, w)}
}

var turnMemorySamples = [][][]int{{{1, 0}, {0, 1}}, {{1, 0}, {1, 0}}, threeSwap, fourPairs, fiveTurns, fiveAlike, fiveRing}

// TestTurnRowsAreApart overwrites one row of each result after the other, and what stands behind its end.
func TestTurnRowsAreApart(t *testing.T) {
	for _, rows := range turnMemorySamples {
		w, order := roomyRows(rows), roomy(countUp(len(rows)))
		rowsBefore, listBefore := rowsWithRoom(w), withRoom(order)
		for _, got := range turnResults(t, w, order) {
			for k := range got {
				later := copyRows(got[k+1:])
				overwrite(got[k])
				if !sameRows(later, got[k+1:]) {
					t.Errorf("rows of a result for %v share memory: %v", rows, got)
				}
			}
		}
		if !sameRows(rowsWithRoom(w), rowsBefore) || !slices.Equal(withRoom(order), listBefore) {
			t.Errorf("results for %v share memory with the arguments", rows)
		}
	}
}

// TestTurnResultsAreApart overwrites second results, and then the arguments.
func TestTurnResultsAreApart(t *testing.T) {
	for _, rows := range turnMemorySamples {
		order := countUp(len(rows))
		w, told := roomyRows(rows), roomy(order)
		results := turnResults(t, w, told)
		for _, again := range turnResults(t, w, told) {
			overwriteRows(again)
		}
		overwriteRows(w)
		overwrite(told)
		goods := goodsByTelling(rows)
		for i, want := range [][][]int{{takenByTelling(rows, order), order}, goods, goods} {
			if !sameRows(results[i], want) {
				t.Errorf("results for %v share memory: %v, want %v", rows, results[i], want)
			}
		}
	}
}

// TestTurnOrderSharesNoGiving overwrites the giving for which it is asked, and then the order.
func TestTurnOrderSharesNoGiving(t *testing.T) {
	g := roomy(countUp(5))
	order := firstOrder(t, fiveOwn, g)
	overwrite(g)
	if !slices.Equal(order, countUp(5)) {
		t.Errorf("TurnOrder has become %v with its giving", order)
	}
	g = roomy(countUp(5))
	before := withRoom(g)
	overwrite(firstOrder(t, fiveOwn, g))
	if !slices.Equal(withRoom(g), before) {
		t.Errorf("the giving has become %v with TurnOrder", g)
	}
}
