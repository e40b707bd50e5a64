package tests

import (
	"math"
	"slices"
	"testing"

	"loop.example/tradecircles/impl"
)

// noOrders returns lists that differ in one thing from a list that has each number less than its length once.
func noOrders(list []int) [][]int {
	n := len(list)
	all := [][]int{nil, {}, list[:n-1], list[1:], append(slices.Clone(list), n), append(slices.Clone(list), 0), slices.Concat(list, list), make([]int, n), slices.Repeat([]int{-1}, n)}
	for i := range list {
		for _, x := range slices.Concat([]int{n, n + 1, list[(i+1)%n]}, farNumbers) {
			b := slices.Clone(list)
			b[i] = x
			all = append(all, b)
		}
	}
	return all
}

// spoiledWishes returns lists that differ from wishes in one thing.
func spoiledWishes(w [][]int) [][][]int {
	var all [][][]int
	for i := range w {
		for _, list := range noOrders(w[i]) {
			b := copyRows(w)
			b[i] = list
			all = append(all, b)
		}
		all = append(all, slices.Delete(copyRows(w), i, i+1), slices.Insert(copyRows(w), i, slices.Clone(w[i])))
	}
	return all
}

func noWishes() [][][]int {
	six := []int{0, 1, 2, 3, 4, 5}
	all := [][][]int{nil, {}, {nil}, {{}}, {{0}}, {{1}}, {{0, 1}}, {nil, nil}, {{}, {}}, {{0}, {0}}, {{0}, {1}}, {{1, 2}, {2, 1}}, allAlike(six), allAlike(append(six, 6)), make([][]int, 64), make([][]int, 100000)}
	d := dice(20)
	for n := 2; n <= impl.PeopleMax; n++ {
		all = append(all, spoiledWishes(allAlike(countUp(n)))...)
		all = append(all, spoiledWishes(randomWishes(&d, n))...)
	}
	return all
}

// wantNoHouses has all functions of the chapter fail with zero values.
func wantNoHouses(t *testing.T, w [][]int, g []int, list []int) {
	t.Helper()
	if impl.HouseIn(w) || impl.HouseFirm(w, g) {
		t.Errorf("HouseIn(%v) = %t, HouseFirm for %v = %t", w, impl.HouseIn(w), g, impl.HouseFirm(w, g))
	}
	giving, ok := impl.HouseTrade(w)
	wantList(t, "HouseTrade of no wishes", giving, ok, nil)
	if n, ok := impl.HouseTurns(w); ok || n != 0 {
		t.Errorf("HouseTurns(%v) = %d, %t", w, n, ok)
	}
	if n, ok := impl.HouseCircle(w); ok || n != 0 {
		t.Errorf("HouseCircle(%v) = %d, %t", w, n, ok)
	}
	if firms, ok := impl.HouseFirms(w); ok || len(firms) != 0 {
		t.Errorf("HouseFirms(%v) = %v, %t", w, firms, ok)
	}
	for person := range 2 {
		if n, ok := impl.HouseGets(w, person, list); ok || n != 0 {
			t.Errorf("HouseGets(%v, %d, %v) = %d, %t", w, person, list, n, ok)
		}
		if impl.HouseLikes(w, person, 0, 1) || impl.HouseLikes(w, person, 1, 0) {
			t.Errorf("HouseLikes(%v, %d, 0, 1) or of both exchanged holds", w, person)
		}
	}
	for _, set := range []int{1, 2, 3, 7, 15, 31, 63} {
		if impl.HouseBlocks(w, g, set) {
			t.Errorf("HouseBlocks(%v, %v, %d) holds", w, g, set)
		}
	}
}

func TestNoWishes(t *testing.T) {
	for _, w := range noWishes() {
		for n := 2; n <= impl.PeopleMax; n++ {
			backwards := slices.Clone(countUp(n))
			slices.Reverse(backwards)
			wantNoHouses(t, w, countUp(n), countUp(n))
			wantNoHouses(t, w, backwards, backwards)
		}
		wantNoHouses(t, w, nil, nil)
		wantNoHouses(t, w, []int{0}, []int{0})
		wantNoHouses(t, w, []int{0, 1, 2, 3, 4, 5}, []int{0, 1, 2, 3, 4, 5})
	}
}

// TestAnyGivings tries all lists of up to one number too many, with numbers that are no houses on both sides.
func TestAnyGivings(t *testing.T) {
	for _, n := range slices.Concat(farNumbers, []int{0, 1, 2, 3, 4, 5, 6, 7}) {
		people := n >= 2 && n <= 5
		for length := range 6 {
			for _, g := range listsOver(length, -1, length) {
				want := people && length == n && allWithin(g, 0, n-1) && allDifferent(g)
				if got := impl.HouseGiving(n, g); got != want {
					t.Errorf("HouseGiving(%d, %v) = %t", n, g, got)
				}
			}
		}
	}
	for _, g := range [][]int{{0}, {0, 1, 2, 3, 4, 5}, {5, 4, 3, 2, 1, 0}, make([]int, 100000)} {
		for _, n := range []int{1, 2, 5, 6, len(g)} {
			if impl.HouseGiving(n, g) {
				t.Errorf("HouseGiving(%d, %v) holds", n, g)
			}
		}
	}
}

// TestNoGivings spoils givings that are firm, and givings that are blocked by all sets of two people and more.
func TestNoGivings(t *testing.T) {
	for n := 2; n <= impl.PeopleMax; n++ {
		d := dice(30 + n)
		for range 5 {
			w := randomWishes(&d, n)
			firm, _ := tradeByTelling(w)
			for _, g := range noOrders(firm) {
				wantNoGiving(t, w, g)
			}
		}
		w := likeOwnLeast(n)
		if !impl.HouseBlocks(w, countUp(n), 3) {
			t.Errorf("HouseBlocks(%v, own houses, 3) does not hold", w)
		}
		for _, g := range noOrders(countUp(n)) {
			wantNoGiving(t, w, g)
		}
	}
}

func wantNoGiving(t *testing.T, w [][]int, g []int) {
	t.Helper()
	if impl.HouseGiving(len(w), g) || impl.HouseFirm(w, g) {
		t.Errorf("HouseGiving(%d, %v) = %t, HouseFirm for %v = %t", len(w), g, impl.HouseGiving(len(w), g), w, impl.HouseFirm(w, g))
	}
	for set := -1; set <= everyone(len(w))+1; set++ {
		if impl.HouseBlocks(w, g, set) {
			t.Errorf("HouseBlocks(%v, %v, %d) holds", w, g, set)
		}
	}
}

func TestOtherPeopleAndHouses(t *testing.T) {
	d := dice(40)
	for n := 2; n <= impl.PeopleMax; n++ {
		w := randomWishes(&d, n)
		for _, x := range slices.Concat([]int{n, n + 1}, farNumbers) {
			if x >= 0 && x < n {
				t.Fatalf("%d is one of %d people", x, n)
			}
			if got, ok := impl.HouseGets(w, x, countUp(n)); ok || got != 0 {
				t.Errorf("HouseGets(%v, %d, %v) = %d, %t", w, x, countUp(n), got, ok)
			}
			for k := range n {
				for i := range n {
					if impl.HouseLikes(w, x, i, k) || impl.HouseLikes(w, k, x, i) || impl.HouseLikes(w, k, i, x) {
						t.Errorf("HouseLikes(%v) holds for %d with %d and %d", w, x, k, i)
					}
				}
				if impl.HouseLikes(w, k, x, x) || impl.HouseLikes(w, k, x, -1) || impl.HouseLikes(w, k, -1, x) {
					t.Errorf("HouseLikes(%v, %d) holds for %d", w, k, x)
				}
			}
		}
	}
}

// TestOtherSets has sets that would block a giving, with further bits.
func TestOtherSets(t *testing.T) {
	for n := 2; n <= impl.PeopleMax; n++ {
		w := make([][]int, n)
		for i := range w {
			next := (i + 1) % n
			w[i] = append([]int{next}, slices.DeleteFunc(slices.Clone(countUp(n)), func(house int) bool { return house == next })...)
		}
		if !impl.HouseBlocks(w, countUp(n), everyone(n)) {
			t.Errorf("HouseBlocks(%v, own houses, all) does not hold", w)
		}
		for _, base := range []int{0, everyone(n)} {
			for bit := n; bit < 64; bit++ {
				if set := base | 1<<bit; impl.HouseBlocks(w, countUp(n), set) {
					t.Errorf("HouseBlocks(%v, own houses, %d) holds", w, set)
				}
				if set := base | -1<<bit; impl.HouseBlocks(w, countUp(n), set) {
					t.Errorf("HouseBlocks(%v, own houses, %d) holds", w, set)
				}
			}
		}
		for _, set := range []int{0, -1, -2, math.MinInt, math.MaxInt} {
			if impl.HouseBlocks(w, countUp(n), set) {
				t.Errorf("HouseBlocks(%v, own houses, %d) holds", w, set)
			}
		}
	}
}

// TestOtherLists has lists told that are no such ones.
func TestOtherLists(t *testing.T) {
	d := dice(50)
	for n := 2; n <= impl.PeopleMax; n++ {
		w := randomWishes(&d, n)
		for person := range n {
			for _, list := range noOrders(w[person]) {
				if got, ok := impl.HouseGets(w, person, list); ok || got != 0 {
					t.Errorf("HouseGets(%v, %d, %v) = %d, %t", w, person, list, got, ok)
				}
			}
		}
	}
}

func callAllHouses(w [][]int, g []int, x int, y int) {
	impl.HouseIn(w)
	impl.HouseGiving(x, g)
	impl.HouseGiving(len(w), g)
	impl.HouseLikes(w, x, y, 0)
	impl.HouseLikes(w, 0, x, y)
	impl.HouseTrade(w)
	impl.HouseTurns(w)
	impl.HouseCircle(w)
	impl.HouseBlocks(w, g, x)
	impl.HouseFirm(w, g)
	impl.HouseFirms(w)
	impl.HouseGets(w, x, g)
}

// TestHouseArgumentsStay also has any panic fail, for all kinds of arguments, valid or not.
func TestHouseArgumentsStay(t *testing.T) {
	lists := [][]int{nil, {0}, {0, 1}, {1, 0}, {0, 0}, {2, 1, 0}, {3, 0, 1, 2}, {0, 1, 2, 3, 4}, {4, 0, 3, 1, 2}, {0, 1, 2, 3, 4, 5}, {-1, 0}, {math.MaxInt, math.MinInt}}
	tables := slices.Concat(noWishes(), everyWishes(2), someWishes(3, 1), someWishes(4, 1), someWishes(5, 1))
	for _, rows := range tables {
		for _, numbers := range lists {
			w, g := roomyRows(rows), roomy(numbers)
			rowsBefore, listBefore := rowsWithRoom(w), withRoom(g)
			for _, pair := range [][2]int{{0, 1}, {1, 0}, {4, 4}, {-1, 5}, {31, 2}, {math.MinInt, math.MaxInt}} {
				callAllHouses(w, g, pair[0], pair[1])
			}
			if !sameRows(rowsBefore, rowsWithRoom(w)) || !slices.Equal(listBefore, withRoom(g)) {
				t.Fatalf("the arguments %v, %v have become %v, %v", rows, numbers, w, g)
			}
		}
	}
}

// TestHouseResultsAreApart overwrites results, what stands behind their ends, and then the arguments.
func TestHouseResultsAreApart(t *testing.T) {
	for _, rows := range [][][]int{{{1, 0}, {0, 1}}, threeSwap, threeRing, fourPairs, fiveTurns, fiveAlike} {
		want, _ := tradeByTelling(rows)
		w := roomyRows(rows)
		giving, _ := impl.HouseTrade(w)
		givingAgain, _ := impl.HouseTrade(w)
		firms, _ := impl.HouseFirms(w)
		firmsAgain, _ := impl.HouseFirms(w)
		before := rowsWithRoom(w)
		overwrite(giving)
		overwriteRows(firms)
		if !sameRows(rowsWithRoom(w), before) {
			t.Errorf("results for %v share memory with the arguments", rows)
		}
		overwriteRows(w)
		if !slices.Equal(givingAgain, want) || !sameRows(firmsAgain, [][]int{want}) {
			t.Errorf("results for %v share memory: %v, %v", rows, givingAgain, firmsAgain)
		}
		if again := tradedHouses(t, rows); !slices.Equal(again, want) {
			t.Errorf("HouseTrade(%v) has become %v", rows, again)
		}
	}
}
