package tests

import (
	"slices"
	"testing"

	"loop.example/tradecircles/impl"
)

// takenByTelling returns, of all givings, the one that is best for the first person of an order, of these the one that is best for the second one, and so on.
func takenByTelling(w [][]int, order []int) []int {
	left := slices.Clone(ordersOf[len(w)])
	for _, person := range order {
		best := len(w)
		for _, g := range left {
			best = min(best, placeOf(w, person, g[person]))
		}
		left = slices.DeleteFunc(left, func(g []int) bool { return placeOf(w, person, g[person]) > best })
	}
	return left[0]
}

// allTakenByTelling has, for each place in the list of all orders, the giving that comes by turns.
func allTakenByTelling(w [][]int) [][]int {
	var all [][]int
	for _, order := range ordersOf[len(w)] {
		all = append(all, takenByTelling(w, order))
	}
	return all
}

// ordersByTelling returns the orders in which a giving comes, of those that come in all orders.
func ordersByTelling(taken [][]int, g []int) [][]int {
	var orders [][]int
	for i, order := range ordersOf[len(g)] {
		if slices.Equal(taken[i], g) {
			orders = append(orders, order)
		}
	}
	return orders
}

// likedBetter reports whether a giving is liked better than another one by some and less by none.
func likedBetter(w [][]int, h []int, g []int) bool {
	some := false
	for i := range w {
		if placeOf(w, i, h[i]) > placeOf(w, i, g[i]) {
			return false
		}
		some = some || placeOf(w, i, h[i]) < placeOf(w, i, g[i])
	}
	return some
}

func goodByTelling(w [][]int, g []int) bool {
	return !slices.ContainsFunc(ordersOf[len(w)], func(h []int) bool { return likedBetter(w, h, g) })
}

func goodsByTelling(w [][]int) [][]int {
	return slices.DeleteFunc(slices.Clone(ordersOf[len(w)]), func(g []int) bool { return !goodByTelling(w, g) })
}

func happyByTelling(w [][]int, g []int) int {
	happy := 0
	for i, house := range g {
		if placeOf(w, i, house) == 0 {
			happy++
		}
	}
	return happy
}

// takenHouses is for arguments of which it is known that they are wishes and an order.
func takenHouses(t *testing.T, w [][]int, order []int) []int {
	t.Helper()
	g, ok := impl.TurnTake(w, order)
	if !ok || len(g) != len(w) {
		t.Fatalf("TurnTake(%v, %v) = %v, %t", w, order, g, ok)
	}
	return g
}

func takenInAll(t *testing.T, w [][]int) [][]int {
	t.Helper()
	all, ok := impl.TurnAll(w)
	if !ok {
		t.Fatalf("TurnAll(%v) fails", w)
	}
	return all
}

func goodsOf(t *testing.T, w [][]int) [][]int {
	t.Helper()
	goods, ok := impl.TurnGoods(w)
	if !ok {
		t.Fatalf("TurnGoods(%v) fails", w)
	}
	return goods
}

func manyOf(t *testing.T, w [][]int, g []int) int {
	t.Helper()
	count, ok := impl.TurnMany(w, g)
	if !ok {
		t.Fatalf("TurnMany(%v, %v) fails", w, g)
	}
	return count
}

func happyOf(t *testing.T, w [][]int, g []int) int {
	t.Helper()
	count, ok := impl.TurnHappy(w, g)
	if !ok {
		t.Fatalf("TurnHappy(%v, %v) fails", w, g)
	}
	return count
}

// firstOrder is for givings of which it is known that they come in some order.
func firstOrder(t *testing.T, w [][]int, g []int) []int {
	t.Helper()
	order, ok := impl.TurnOrder(w, g)
	if !ok || len(order) != len(w) {
		t.Fatalf("TurnOrder(%v, %v) = %v, %t", w, g, order, ok)
	}
	return order
}

// wantComes has the questions about one giving answered as told; it comes in no order if the first one is nil, and is then not good.
func wantComes(t *testing.T, w [][]int, g []int, first []int, many int, happy int) {
	t.Helper()
	if got := impl.TurnGood(w, g); got != (first != nil) {
		t.Errorf("TurnGood(%v, %v) = %t", w, g, got)
	}
	order, ok := impl.TurnOrder(w, g)
	if ok != (first != nil) || !slices.Equal(order, first) {
		t.Errorf("TurnOrder(%v, %v) = %v, %t, want %v", w, g, order, ok, first)
	}
	count, ok := impl.TurnMany(w, g)
	wantNumber(t, "TurnMany", count, ok, many)
	count, ok = impl.TurnHappy(w, g)
	wantNumber(t, "TurnHappy", count, ok, happy)
}

// wantGivings has both lists of givings as told.
func wantGivings(t *testing.T, w [][]int, want [][]int) {
	t.Helper()
	if all, ok := impl.TurnAll(w); !ok || !sameRows(all, want) {
		t.Errorf("TurnAll(%v) = %v, %t, want %v", w, all, ok, want)
	}
	if goods, ok := impl.TurnGoods(w); !ok || !sameRows(goods, want) {
		t.Errorf("TurnGoods(%v) = %v, %t, want %v", w, goods, ok, want)
	}
}

// wantTurnsByTelling has all that the chapter tells of wishes held against the definitions.
func wantTurnsByTelling(t *testing.T, w [][]int) {
	t.Helper()
	taken := allTakenByTelling(w)
	for i, order := range ordersOf[len(w)] {
		g, ok := impl.TurnTake(w, order)
		wantList(t, "TurnTake", g, ok, taken[i])
	}
	wantGivings(t, w, goodsByTelling(w))
	for _, g := range ordersOf[len(w)] {
		orders := ordersByTelling(taken, g)
		if len(orders) == 0 {
			wantComes(t, w, g, nil, 0, happyByTelling(w, g))
		} else {
			wantComes(t, w, g, orders[0], len(orders), happyByTelling(w, g))
		}
	}
}
