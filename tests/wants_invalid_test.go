package tests

import (
	"math"
	"slices"
	"testing"

	"loop.example/tradecircles/impl"
)

// spoiledWants returns lists that differ from wants in one set: a negative one, one with a bit for a person that there is not, one with the own bit.
func spoiledWants(w []int) [][]int {
	n := len(w)
	var all [][]int
	for i := range w {
		sets := []int{-1, -2, math.MinInt, math.MinInt + 1, math.MinInt + w[i], w[i] - power(2, n), -power(2, n)}
		for bit := n; bit < 63; bit++ {
			sets = append(sets, power(2, bit), w[i]+power(2, bit))
		}
		sets = append(sets, math.MaxInt, math.MaxInt-power(2, i), power(2, i), w[i]+power(2, i), everyone(n))
		for _, set := range sets {
			b := slices.Clone(w)
			b[i] = set
			all = append(all, b)
		}
	}
	return all
}

// notWants has no list, one person, more people than there may be, and wants that are spoiled.
func notWants() [][]int {
	all := [][]int{nil, {}, {0}, {1}, {2}, {-1}, {math.MaxInt}, {math.MinInt}}
	for _, n := range []int{7, 8, 31, 32, 62} {
		all = append(all, make([]int, n), allOthersWanted(n), append([]int{2, 1}, make([]int, n-2)...))
	}
	all = append(all, make([]int, 63), make([]int, 64), make([]int, 65), make([]int, 100000))
	for _, w := range namedWants() {
		all = append(all, spoiledWants(w)...)
	}
	return all
}

// farSizes are too many or too few for a circle of any wants.
var farSizes = []int{math.MinInt, math.MinInt + 2, -64, -6, -2, -1, 0, 1, 7, 8, 32, 64, 65, 1<<32 + 2, math.MaxInt - 1, math.MaxInt}

// wantNoJoined has all functions that take the number of people on circles fail with zero values.
func wantNoJoined(t *testing.T, w []int, k int) {
	t.Helper()
	if circles, ok := impl.WantCircles(w, k); ok || len(circles) != 0 {
		t.Errorf("WantCircles(%v, %d) = %v, %t", w, k, circles, ok)
	}
	if most, ok := impl.WantMost(w, k); ok || most != 0 {
		t.Errorf("WantMost(%v, %d) = %d, %t", w, k, most, ok)
	}
	if takes, ok := impl.WantFirst(w, k); ok || len(takes) != 0 {
		t.Errorf("WantFirst(%v, %d) = %v, %t", w, k, takes, ok)
	}
	if impl.WantAll(w, k) {
		t.Errorf("WantAll(%v, %d) holds", w, k)
	}
}

// wantNoWants has all functions of the chapter fail with zero values.
func wantNoWants(t *testing.T, w []int) {
	t.Helper()
	if impl.WantIn(w) {
		t.Errorf("WantIn(%v) holds", w)
	}
	if on, ok := impl.WantOn(w); ok || on != 0 {
		t.Errorf("WantOn(%v) = %d, %t", w, on, ok)
	}
	if most, ok := impl.WantTry(w); ok || most != 0 {
		t.Errorf("WantTry(%v) = %d, %t", w, most, ok)
	}
	if turned, ok := impl.WantTurn(w); ok || len(turned) != 0 {
		t.Errorf("WantTurn(%v) = %v, %t", w, turned, ok)
	}
	for k := 2; k <= impl.WanterMax; k++ {
		wantNoJoined(t, w, k)
	}
	for _, list := range [][]int{nil, {0}, {0, 1}, {0, 1, 2}, {1, 2}, {0, 1, 2, 3}, {0, 1, 2, 3, 4}, {0, 1, 2, 3, 4, 5}, {0, 1, 2, 3, 4, 5, 6}} {
		if impl.WantCircle(w, list) {
			t.Errorf("WantCircle(%v, %v) holds", w, list)
		}
	}
}

func TestNoWants(t *testing.T) {
	for _, w := range notWants() {
		wantNoWants(t, w)
		for _, k := range []int{0, 1, 7, len(w)} {
			wantNoJoined(t, w, k)
		}
	}
}

// TestAnyWants tries all lists of two and of three sets, with numbers that are no sets on both sides.
func TestAnyWants(t *testing.T) {
	for n := 2; n <= 3; n++ {
		valid := 0
		for _, w := range listsOver(n, -2, everyone(n)+2) {
			if slices.ContainsFunc(everyWants(n), func(other []int) bool { return slices.Equal(other, w) }) {
				valid++
				if !impl.WantIn(w) {
					t.Errorf("WantIn(%v) does not hold", w)
				}
			} else {
				wantNoWants(t, w)
			}
		}
		wantNumber(t, "the number of wants", valid, true, power(power(2, n-1), n))
	}
}

func TestWantsOfOtherSizes(t *testing.T) {
	for _, w := range sampleWants(5) {
		for _, k := range append([]int{len(w) + 1, len(w) + 2}, farSizes...) {
			wantNoJoined(t, w, k)
		}
	}
}

// TestWantCircleOfAnyLists tries all lists of up to one person too many, with numbers that are nobody on both sides.
func TestWantCircleOfAnyLists(t *testing.T) {
	for n := 2; n <= 4; n++ {
		for _, w := range [][]int{allOthersWanted(n), ringWants(n, countUp(n)...), withoutWants(allOthersWanted(n), 1), lesserWanted(n), make([]int, n)} {
			held := 0
			for length := range n + 2 {
				for _, list := range listsOver(length, -1, n) {
					if impl.WantCircle(w, list) {
						held++
						if length < 2 || !allDifferent(list) || !allWithin(list, 0, n-1) || slices.Min(list) != list[0] || !circleByTelling(w, list) {
							t.Errorf("WantCircle(%v, %v) holds", w, list)
						}
					}
				}
			}
			if want := len(circlesByTelling(w, n)); held != want {
				t.Errorf("WantCircle(%v) holds for %d lists, want %d", w, held, want)
			}
		}
	}
}

// TestSpoiledCircles spoils lists that are circles.
func TestSpoiledCircles(t *testing.T) {
	for n := 2; n <= impl.WanterMax; n++ {
		w := allOthersWanted(n)
		for _, ring := range ringsOf[n] {
			if !impl.WantCircle(w, ring) {
				t.Errorf("WantCircle(%v, %v) does not hold", w, ring)
			}
			for i := range ring {
				if less := slices.Clone(w); i > 0 {
					// Just the want along which one comes to this place.
					less[ring[i-1]] -= power(2, ring[i])
					wantNoCircle(t, less, ring)
					wantNoCircle(t, w, slices.Concat(ring[i:], ring[:i]))
				}
				for _, x := range []int{math.MinInt, -64, -1, n, n + 1, 63, 64, 1 << 32, math.MaxInt, ring[(i+1)%len(ring)]} {
					spoiled := slices.Clone(ring)
					spoiled[i] = x
					wantNoCircle(t, w, spoiled)
				}
				wantNoCircle(t, w, append(slices.Clone(ring), ring[i]))
			}
			wantNoCircle(t, withoutWants(w, ring[len(ring)-1]), ring)
			wantNoCircle(t, withoutThing(w, ring[0]), ring)
		}
		for _, list := range [][]int{nil, {}, {0}, {n - 1}, make([]int, n), make([]int, 100000)} {
			wantNoCircle(t, w, list)
		}
	}
}

func wantNoCircle(t *testing.T, w []int, list []int) {
	t.Helper()
	if impl.WantCircle(w, list) {
		t.Errorf("WantCircle(%v, %v) holds", w, list)
	}
}

func callAllWants(w []int, list []int, k int) {
	impl.WantIn(w)
	impl.WantCircle(w, list)
	impl.WantCircles(w, k)
	impl.WantOn(w)
	impl.WantMost(w, k)
	impl.WantTry(w)
	impl.WantFirst(w, k)
	impl.WantTurn(w)
	impl.WantAll(w, k)
}

// TestWantArgumentsStay also has any panic fail, for all kinds of arguments, valid or not.
func TestWantArgumentsStay(t *testing.T) {
	lists := [][]int{nil, {0}, {0, 1}, {1, 0}, {0, 0}, {0, 2, 1}, {1, 2, 3}, {0, 1, 2, 3, 4, 5}, {0, 1, 2, 3, 4, 5, 6}, {-1, 0}, {math.MaxInt, math.MinInt}}
	some := [][]int{nil, {}, {0}, {-1, 1}, {2, 1 << 62}, {3, 1}, {math.MinInt, math.MaxInt}, make([]int, 7), allOthersWanted(7)}
	for _, sets := range slices.Concat(some, namedWants(), everyWants(3)) {
		for _, numbers := range lists {
			w, list := roomy(sets), roomy(numbers)
			setsBefore, listBefore := withRoom(w), withRoom(list)
			for _, k := range []int{math.MinInt, -1, 0, 1, 2, 3, len(sets), 7, math.MaxInt} {
				callAllWants(w, list, k)
			}
			if !slices.Equal(setsBefore, withRoom(w)) || !slices.Equal(listBefore, withRoom(list)) {
				t.Fatalf("the arguments %v, %v have become %v, %v", sets, numbers, w, list)
			}
		}
	}
}

// wantResults has all lists that the chapter returns for wants.
func wantResults(t *testing.T, w []int, k int) [][][]int {
	t.Helper()
	return [][][]int{circlesOf(t, w, k), {firstTakes(t, w, k), turnedWants(t, w)}}
}

// TestWantRowsAreApart overwrites one row of each result after the other, and what stands behind its end.
func TestWantRowsAreApart(t *testing.T) {
	for _, sets := range namedWants() {
		w := roomy(sets)
		before := withRoom(w)
		for k := 2; k <= len(w); k++ {
			for _, got := range wantResults(t, w, k) {
				for i := range got {
					others := copyRows(got)
					overwrite(got[i])
					others[i], got[i] = nil, nil
					if !sameRows(others, got) {
						t.Errorf("rows of a result for %v share memory: %v", sets, got)
					}
				}
			}
		}
		if !slices.Equal(withRoom(w), before) {
			t.Errorf("results for %v share memory with the argument", sets)
		}
	}
}

// TestWantResultsAreApart overwrites second results, and then the argument.
func TestWantResultsAreApart(t *testing.T) {
	for _, sets := range namedWants() {
		for k := 2; k <= len(sets); k++ {
			w := roomy(sets)
			results := wantResults(t, w, k)
			for _, again := range wantResults(t, w, k) {
				overwriteRows(again)
			}
			overwrite(w)
			for i, want := range [][][]int{circlesByTelling(sets, k), {bestTakes(sets, k)[0], turnedByTelling(sets)}} {
				if !sameRows(results[i], want) {
					t.Errorf("results for %v share memory: %v, want %v", sets, results[i], want)
				}
			}
		}
	}
}

// TestWantResultsGrow appends to each row of a result, and to the wants turned and turned again.
func TestWantResultsGrow(t *testing.T) {
	for _, sets := range namedWants() {
		w := slices.Clone(sets)
		circles, grown := circlesOf(t, w, len(w)), circlesByTelling(sets, len(sets))
		for i := range circles {
			circles[i] = append(circles[i], 7777)
		}
		for i := range grown {
			grown[i] = append(slices.Clone(grown[i]), 7777)
		}
		if !sameRows(circles, grown) {
			t.Errorf("circles of %v that grow have become %v, want %v", sets, circles, grown)
		}
		turned := turnedWants(t, w)
		back := turnedWants(t, turned)
		turned = append(turned, 7777)
		overwrite(turned)
		if !slices.Equal(back, sets) || !slices.Equal(w, sets) {
			t.Errorf("wants turned again have become %v, and the wants %v, want %v", back, w, sets)
		}
	}
}
