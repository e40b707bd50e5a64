package tests

import (
	"slices"
	"testing"

	"loop.example/tradecircles/impl"
)

// tradedHouses is for lists of which it is known that they are wishes.
func tradedHouses(t *testing.T, w [][]int) []int {
	t.Helper()
	g, ok := impl.HouseTrade(w)
	if !ok || len(g) != len(w) {
		t.Fatalf("HouseTrade(%v) = %v, %t", w, g, ok)
	}
	return g
}

func turnsOf(t *testing.T, w [][]int) int {
	t.Helper()
	turns, ok := impl.HouseTurns(w)
	if !ok {
		t.Fatalf("HouseTurns(%v) fails", w)
	}
	return turns
}

func TestPromise23(t *testing.T) {
	for _, w := range sampleWishes(100) {
		if !impl.HouseIn(w) {
			t.Errorf("HouseIn(%v) does not hold", w)
		}
		if g := tradedHouses(t, w); !impl.HouseGiving(len(w), g) || !allWithin(g, 0, len(w)-1) || !allDifferent(g) {
			t.Errorf("HouseTrade(%v) = %v is no giving", w, g)
		}
	}
}

// TestPromise24 tries all lists, with numbers that are no houses on both sides.
func TestPromise24(t *testing.T) {
	all, met := 0, 0
	for n := -1; n <= impl.PeopleMax+1; n++ {
		for length := range impl.PeopleMax + 2 {
			for _, g := range listsOver(length, -1, min(length, impl.PeopleMax)) {
				all++
				if !impl.HouseGiving(n, g) {
					continue
				}
				met++
				for house := range n {
					if !slices.Contains(g, house) {
						t.Errorf("HouseGiving(%d, %v) holds", n, g)
					}
				}
			}
		}
	}
	wantNumber(t, "the number of givings", met, true, 2+6+24+120)
	wantBoth(t, "HouseGiving holds", met, all)
}

func TestPromise25(t *testing.T) {
	all, met := 0, 0
	for _, w := range sampleWishes(10) {
		for person := range w {
			for _, pair := range listsOver(2, 0, len(w)-1) {
				x, y := pair[0], pair[1]
				all++
				if !impl.HouseLikes(w, person, x, y) {
					continue
				}
				met++
				if x == y || impl.HouseLikes(w, person, y, x) {
					t.Errorf("HouseLikes(%v, %d, %d, %d) holds", w, person, x, y)
				}
			}
		}
	}
	wantBoth(t, "HouseLikes holds", met, all)
}

func TestPromise26(t *testing.T) {
	all, better := 0, 0
	for _, w := range sampleWishes(100) {
		g := tradedHouses(t, w)
		for i, house := range g {
			if impl.HouseLikes(w, i, i, house) {
				t.Errorf("%d likes the own house better than what comes by HouseTrade(%v) = %v", i, w, g)
			}
			all++
			if impl.HouseLikes(w, i, house, i) {
				better++
			}
		}
		if !impl.HouseFirm(w, g) {
			t.Errorf("HouseFirm(%v, %v) does not hold", w, g)
		}
	}
	wantBoth(t, "people like what comes better than the own house", better, all)
}

func TestPromise27(t *testing.T) {
	all, met := sampleWishes(100), 0
	for _, w := range all {
		turns := turnsOf(t, w)
		if turns < 1 || turns > len(w) {
			t.Errorf("HouseTurns(%v) = %d", w, turns)
		}
		different := likeDifferentBest(w)
		if different != (turns == 1) {
			t.Errorf("HouseTurns(%v) = %d", w, turns)
		}
		if different {
			met++
		}
	}
	wantBoth(t, "all like different houses best", met, len(all))
}

func TestPromise28(t *testing.T) {
	all, met := 0, 0
	for _, w := range sampleWishes(10) {
		traded := tradedHouses(t, w)
		for _, g := range ordersOf[len(w)] {
			for set := range everyone(len(w)) + 1 {
				all++
				if !impl.HouseBlocks(w, g, set) {
					continue
				}
				met++
				if impl.HouseFirm(w, g) || slices.Equal(g, traded) {
					t.Errorf("%d blocks %v for %v, but HouseFirm is %t and HouseTrade %v", set, g, w, impl.HouseFirm(w, g), traded)
				}
			}
		}
	}
	wantBoth(t, "HouseBlocks holds", met, all)
}

func TestPromise29(t *testing.T) {
	all, met := 0, 0
	for _, w := range sampleWishes(20) {
		traded := tradedHouses(t, w)
		for _, g := range ordersOf[len(w)] {
			all++
			if !impl.HouseFirm(w, g) {
				continue
			}
			met++
			if !slices.Equal(g, traded) {
				t.Errorf("HouseFirm(%v, %v) holds, but HouseTrade is %v", w, g, traded)
			}
		}
	}
	wantBoth(t, "HouseFirm holds", met, all)
}

func TestPromise30(t *testing.T) {
	for _, w := range sampleWishes(20) {
		firms, ok := impl.HouseFirms(w)
		if !ok || !sameRows(firms, [][]int{tradedHouses(t, w)}) {
			t.Errorf("HouseFirms(%v) = %v, %t, HouseTrade %v", w, firms, ok, tradedHouses(t, w))
		}
	}
}

func TestPromise31(t *testing.T) {
	all, worse := 0, 0
	for _, w := range sampleWishes(5) {
		traded := tradedHouses(t, w)
		for person := range w {
			for _, list := range ordersOf[len(w)] {
				house, ok := impl.HouseGets(w, person, list)
				if !ok || impl.HouseLikes(w, person, house, traded[person]) {
					t.Errorf("HouseGets(%v, %d, %v) = %d, %t, HouseTrade %v", w, person, list, house, ok, traded)
				}
				if slices.Equal(list, w[person]) && house != traded[person] {
					t.Errorf("HouseGets(%v, %d, the own list) = %d, HouseTrade %v", w, person, house, traded)
				}
				all++
				if house != traded[person] {
					worse++
				}
			}
		}
	}
	wantBoth(t, "another list gets another house", worse, all)
}

func TestPromise32(t *testing.T) {
	all, met := sampleWishes(100), 0
	for _, w := range all {
		set, ok := impl.HouseCircle(w)
		if !ok || set < 1 || set > everyone(len(w)) {
			t.Errorf("HouseCircle(%v) = %d, %t", w, set, ok)
		}
		traded := tradedHouses(t, w)
		for i := range w {
			if isIn(set, i) && traded[i] != w[i][0] {
				t.Errorf("HouseCircle(%v) = %d has %d, HouseTrade %v", w, set, i, traded)
			}
		}
		if (set == everyone(len(w))) != (turnsOf(t, w) == 1) {
			t.Errorf("HouseCircle(%v) = %d, HouseTurns %d", w, set, turnsOf(t, w))
		}
		if turnsOf(t, w) == 1 {
			met++
		}
	}
	wantBoth(t, "HouseTurns is 1", met, len(all))
}
