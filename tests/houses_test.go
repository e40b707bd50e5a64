package tests

import (
	"slices"
	"testing"

	"loop.example/tradecircles/impl"
)

var (
	threeSwap  = [][]int{{1, 0, 2}, {0, 1, 2}, {0, 2, 1}}
	threeRing  = [][]int{{1, 0, 2}, {2, 1, 0}, {0, 2, 1}}
	fourPairs  = [][]int{{1, 2, 3, 0}, {0, 3, 2, 1}, {3, 0, 1, 2}, {2, 1, 0, 3}}
	fiveRing   = [][]int{{1, 0, 2, 3, 4}, {2, 1, 0, 3, 4}, {3, 2, 0, 1, 4}, {4, 3, 0, 1, 2}, {0, 4, 1, 2, 3}}
	fiveTurns  = [][]int{{2, 3, 1, 4, 0}, {2, 0, 1, 3, 4}, {2, 0, 1, 3, 4}, {2, 4, 0, 1, 3}, {2, 3, 0, 1, 4}}
	fiveAlike  = allAlike([]int{3, 1, 4, 0, 2})
	fiveOwn    = [][]int{{0, 1, 2, 3, 4}, {1, 2, 3, 4, 0}, {2, 3, 4, 0, 1}, {3, 4, 0, 1, 2}, {4, 0, 1, 2, 3}}
	fiveChain  = [][]int{{1, 0, 2, 3, 4}, {2, 1, 0, 3, 4}, {3, 2, 0, 1, 4}, {4, 3, 0, 1, 2}, {4, 0, 1, 2, 3}}
	fiveCircle = [][]int{{1, 0, 2, 3, 4}, {2, 0, 1, 3, 4}, {0, 1, 2, 3, 4}, {0, 4, 3, 1, 2}, {2, 3, 4, 1, 0}}
)

func TestHouseConstants(t *testing.T) {
	if impl.PeopleMax != 5 {
		t.Errorf("PeopleMax = %d", impl.PeopleMax)
	}
}

func wantTrade(t *testing.T, w [][]int, giving []int, turns int, circle int) {
	t.Helper()
	g, ok := impl.HouseTrade(w)
	wantList(t, "HouseTrade", g, ok, giving)
	count, ok := impl.HouseTurns(w)
	wantNumber(t, "HouseTurns", count, ok, turns)
	set, ok := impl.HouseCircle(w)
	wantNumber(t, "HouseCircle", set, ok, circle)
}

func TestHouseTradeExamples(t *testing.T) {
	for _, c := range []struct {
		w      [][]int
		giving []int
		turns  int
		circle int
	}{
		{threeSwap, []int{1, 0, 2}, 2, 3},
		{threeRing, []int{1, 2, 0}, 1, 7},
		{allAlike([]int{2, 1, 0}), []int{0, 1, 2}, 3, 4},
		// Two circles leave at the same pointing.
		{fourPairs, []int{1, 0, 3, 2}, 1, 15},
		{fiveRing, []int{1, 2, 3, 4, 0}, 1, 31},
		// 2 leaves first; then 0 points at 3, 3 at 4, 4 at 3, and 1 at 0; then 0 and 1 are left.
		{fiveTurns, []int{1, 0, 2, 4, 3}, 3, 4},
		{fiveAlike, []int{0, 1, 2, 3, 4}, 5, 8},
		{fiveOwn, []int{0, 1, 2, 3, 4}, 1, 31},
		{fiveChain, []int{0, 1, 2, 3, 4}, 5, 16},
		// A circle of three leaves first, and then one of two.
		{fiveCircle, []int{1, 2, 0, 4, 3}, 2, 7},
	} {
		if !impl.HouseIn(c.w) {
			t.Errorf("HouseIn(%v) does not hold", c.w)
		}
		wantTrade(t, c.w, c.giving, c.turns, c.circle)
		firms, ok := impl.HouseFirms(c.w)
		if !ok || !sameRows(firms, [][]int{c.giving}) {
			t.Errorf("HouseFirms(%v) = %v, %t, want %v alone", c.w, firms, ok, c.giving)
		}
		if !impl.HouseFirm(c.w, c.giving) {
			t.Errorf("HouseFirm(%v, %v) does not hold", c.w, c.giving)
		}
	}
}

// TestTwoPeople has all wishes of two people, with what is told of each of both givings.
func TestTwoPeople(t *testing.T) {
	for _, c := range []struct {
		w       [][]int
		giving  []int
		turns   int
		circle  int
		keeping []int
		swapped []int
	}{
		{[][]int{{0, 1}, {0, 1}}, []int{0, 1}, 2, 1, nil, []int{1}},
		{[][]int{{0, 1}, {1, 0}}, []int{0, 1}, 1, 3, nil, []int{1, 2, 3}},
		{[][]int{{1, 0}, {0, 1}}, []int{1, 0}, 1, 3, []int{3}, nil},
		{[][]int{{1, 0}, {1, 0}}, []int{0, 1}, 2, 2, nil, []int{2}},
	} {
		wantTrade(t, c.w, c.giving, c.turns, c.circle)
		wantBlockers(t, c.w, []int{0, 1}, c.keeping)
		wantBlockers(t, c.w, []int{1, 0}, c.swapped)
		for person := range 2 {
			own, other := person, 1-person
			for _, house := range []int{0, 1} {
				likes := impl.HouseLikes(c.w, person, house, 1-house)
				if likes != (c.w[person][0] == house) || impl.HouseLikes(c.w, person, house, house) {
					t.Errorf("HouseLikes(%v, %d, %d, %d) = %t", c.w, person, house, 1-house, likes)
				}
			}
			// Whoever tells the own house first keeps it, and otherwise the other one decides.
			got, ok := impl.HouseGets(c.w, person, []int{own, other})
			wantNumber(t, "HouseGets", got, ok, own)
			want := own
			if c.w[other][0] == own {
				want = other
			}
			got, ok = impl.HouseGets(c.w, person, []int{other, own})
			wantNumber(t, "HouseGets", got, ok, want)
		}
	}
}

// wantBlockers has just some sets block a giving, of all numbers from below 0 to beyond the set of all.
func wantBlockers(t *testing.T, w [][]int, g []int, sets []int) {
	t.Helper()
	for set := -2 * everyone(len(w)); set <= 4*everyone(len(w)); set++ {
		if got := impl.HouseBlocks(w, g, set); got != slices.Contains(sets, set) {
			t.Errorf("HouseBlocks(%v, %v, %d) = %t", w, g, set, got)
		}
	}
	if got := impl.HouseFirm(w, g); got != (len(sets) == 0) {
		t.Errorf("HouseFirm(%v, %v) = %t, but %v block it", w, g, got, sets)
	}
}

func TestHouseBlocksExamples(t *testing.T) {
	for _, c := range []struct {
		w    [][]int
		g    []int
		sets []int
	}{
		{threeSwap, []int{1, 0, 2}, nil},
		// Two people, and all with the third one keeping the own house.
		{threeSwap, []int{0, 1, 2}, []int{3, 7}},
		// 1 gets the worst house, and is better off alone.
		{threeSwap, []int{1, 2, 0}, []int{2, 3}},
		// 1 and 2 are each better off alone, and 0 has the own house, which does no harm to any set.
		{threeSwap, []int{0, 2, 1}, []int{2, 3, 4, 5, 6, 7}},
		// Only all of them can do better than with their own houses.
		{threeRing, []int{0, 1, 2}, []int{7}},
		{threeRing, []int{1, 2, 0}, nil},
		{threeRing, []int{2, 0, 1}, []int{1, 2, 3, 4, 5, 6, 7}},
		{fourPairs, []int{1, 0, 2, 3}, []int{12, 15}},
		// All like their own houses least, so any two are better off with those of each other.
		{fourPairs, []int{0, 1, 2, 3}, []int{3, 5, 6, 7, 9, 10, 11, 12, 13, 14, 15}},
		{fourPairs, []int{1, 0, 3, 2}, nil},
		{fiveRing, []int{0, 1, 2, 3, 4}, []int{31}},
		{fiveRing, []int{1, 2, 3, 4, 0}, nil},
		// 3 has the house that all like best, and takes it back, alone or with those who keep their own; 0 would lose by it.
		{fiveAlike, []int{3, 1, 2, 0, 4}, []int{8, 10, 12, 14, 24, 26, 28, 30}},
		{fiveAlike, []int{0, 1, 2, 3, 4}, nil},
	} {
		wantBlockers(t, c.w, c.g, c.sets)
		if told := blockersByTelling(c.w, c.g); !slices.Equal(told, c.sets) {
			t.Errorf("%v block %v for %v, not %v", told, c.g, c.w, c.sets)
		}
	}
}

func TestHouseGetsExamples(t *testing.T) {
	for _, c := range []struct {
		w      [][]int
		person int
		list   []int
		want   int
	}{
		// The own list.
		{threeSwap, 0, []int{1, 0, 2}, 1},
		{threeSwap, 2, []int{0, 2, 1}, 2},
		// Other lists.
		{threeSwap, 0, []int{0, 1, 2}, 0},
		{threeSwap, 0, []int{2, 1, 0}, 2},
		{threeSwap, 0, []int{2, 0, 1}, 2},
		{threeSwap, 1, []int{2, 0, 1}, 2},
		{threeSwap, 1, []int{1, 2, 0}, 1},
		{threeSwap, 2, []int{1, 0, 2}, 2},
		{fiveRing, 3, []int{4, 0, 1, 2, 3}, 4},
		{fiveRing, 3, []int{3, 4, 0, 1, 2}, 3},
		{fiveRing, 3, []int{0, 4, 3, 1, 2}, 0},
		// 1 points at 3 in any case.
		{fiveAlike, 3, []int{1, 3, 4, 0, 2}, 1},
		{fiveAlike, 2, []int{0, 1, 4, 3, 2}, 2},
		{fiveOwn, 2, []int{4, 3, 1, 0, 2}, 2},
	} {
		got, ok := impl.HouseGets(c.w, c.person, c.list)
		wantNumber(t, "HouseGets", got, ok, c.want)
	}
}

func TestHouseLikesByPlaces(t *testing.T) {
	for _, w := range sampleWishes(10) {
		for person := range w {
			for x := range w {
				for y := range w {
					want := placeOf(w, person, x) < placeOf(w, person, y)
					if got := impl.HouseLikes(w, person, x, y); got != want {
						t.Errorf("HouseLikes(%v, %d, %d, %d) = %t", w, person, x, y, got)
					}
				}
			}
		}
	}
}

func TestHouseTradeByTelling(t *testing.T) {
	seen := map[int]int{}
	for _, w := range sampleWishes(400) {
		wanted, leaving := tradeByTelling(w)
		wantTrade(t, w, wanted, len(leaving), leaving[0])
		seen[10*len(w)+len(leaving)]++
	}
	for n := 2; n <= impl.PeopleMax; n++ {
		for turns := 1; turns <= n; turns++ {
			if seen[10*n+turns] == 0 {
				t.Errorf("no sample has %d people and %d turns", n, turns)
			}
		}
	}
}

// TestBlocksByTelling tries all givings and all sets of people.
func TestBlocksByTelling(t *testing.T) {
	for _, w := range sampleWishes(8) {
		var firms [][]int
		for _, g := range ordersOf[len(w)] {
			sets := blockersByTelling(w, g)
			wantBlockers(t, w, g, sets)
			if len(sets) == 0 {
				firms = append(firms, g)
			}
		}
		got, ok := impl.HouseFirms(w)
		if !ok || !sameRows(got, firms) {
			t.Errorf("HouseFirms(%v) = %v, %t, want %v", w, got, ok, firms)
		}
	}
}

// TestHouseGetsByTelling tries all lists that each person may tell.
func TestHouseGetsByTelling(t *testing.T) {
	for _, w := range sampleWishes(5) {
		for person := range w {
			for _, list := range ordersOf[len(w)] {
				told := copyRows(w)
				told[person] = list
				wanted, _ := tradeByTelling(told)
				got, ok := impl.HouseGets(w, person, list)
				wantNumber(t, "HouseGets", got, ok, wanted[person])
			}
		}
	}
}
