package tests

import (
	"slices"
	"testing"

	"loop.example/tradecircles/impl"
)

func TestWantConstants(t *testing.T) {
	if impl.WanterMax != 6 {
		t.Errorf("WanterMax = %d", impl.WanterMax)
	}
}

// TestWantsOfTwo has all wants of two people.
func TestWantsOfTwo(t *testing.T) {
	for _, c := range []struct {
		w      []int
		circle bool
		turned []int
	}{
		{[]int{0, 0}, false, []int{0, 0}},
		{[]int{2, 0}, false, []int{0, 1}},
		{[]int{0, 1}, false, []int{2, 0}},
		{[]int{2, 1}, true, []int{2, 1}},
	} {
		if got := impl.WantCircle(c.w, []int{0, 1}); got != c.circle {
			t.Errorf("WantCircle(%v, [0 1]) = %t", c.w, got)
		}
		if c.circle {
			wantOfWants(t, c.w, 3, 2, c.turned)
			wantListed(t, c.w, 2, [][]int{{0, 1}})
			wantJoined(t, c.w, 2, 2, []int{1, 0})
		} else {
			wantOfWants(t, c.w, 0, 0, c.turned)
			wantListed(t, c.w, 2, nil)
			wantJoined(t, c.w, 2, 0, []int{0, 1})
		}
	}
}

func TestWantCircleExamples(t *testing.T) {
	for _, c := range []struct {
		w    []int
		list []int
		want bool
	}{
		{ringWants(3, 0, 1, 2), []int{0, 1, 2}, true},
		// Each one takes the thing of the next one, not of the one ahead.
		{ringWants(3, 0, 1, 2), []int{0, 2, 1}, false},
		{ringWants(3, 0, 1, 2), []int{0, 1}, false},
		// These begin with another one than the least.
		{ringWants(3, 0, 1, 2), []int{1, 2, 0}, false},
		{ringWants(3, 0, 1, 2), []int{2, 0, 1}, false},
		{allOthersWanted(3), []int{1, 0}, false},
		// The least one is the least of the list, and not of all.
		{allOthersWanted(6), []int{3, 5, 4}, true},
		{allOthersWanted(6), []int{4, 5}, true},
		{allOthersWanted(6), []int{0, 5, 1, 4, 2, 3}, true},
		{allOthersWanted(6), []int{5, 4}, false},
		// Of one person and of none.
		{allOthersWanted(3), []int{0}, false},
		{allOthersWanted(3), []int{2}, false},
		{allOthersWanted(3), nil, false},
		{[]int{0, 0, 0}, []int{}, false},
		// With a person twice.
		{allOthersWanted(3), []int{0, 1, 0}, false},
		{allOthersWanted(3), []int{0, 0}, false},
		{allOthersWanted(4), []int{0, 1, 2, 1}, false},
		{allOthersWanted(3), []int{0, 1, 2, 0}, false},
		{allOthersWanted(2), []int{0, 1, 0, 1}, false},
		// With a person that there is not.
		{allOthersWanted(3), []int{0, 3}, false},
		{allOthersWanted(3), []int{-1, 0}, false},
		{allOthersWanted(3), []int{0, 1, 2, 3}, false},
		// But for a want: the last one, the first one and one between.
		{withoutWants(ringWants(4, 0, 1, 2, 3), 3), []int{0, 1, 2, 3}, false},
		{withoutWants(ringWants(4, 0, 1, 2, 3), 0), []int{0, 1, 2, 3}, false},
		{withoutWants(ringWants(4, 0, 1, 2, 3), 1), []int{0, 1, 2, 3}, false},
		{threeShare, []int{0, 1}, true},
		{threeShare, []int{1, 2}, true},
		{threeShare, []int{0, 2}, false},
		{threeShare, []int{0, 1, 2}, false},
	} {
		if got := impl.WantCircle(c.w, c.list); got != c.want {
			t.Errorf("WantCircle(%v, %v) = %t", c.w, c.list, got)
		}
	}
}

func TestWantCirclesExamples(t *testing.T) {
	for _, c := range []struct {
		w    []int
		k    int
		want [][]int
	}{
		{nothingWanted, 2, nil},
		{nothingWanted, 3, nil},
		{threeShare, 2, [][]int{{0, 1}, {1, 2}}},
		{threeShare, 3, [][]int{{0, 1}, {1, 2}}},
		// In the order of lists, one ahead of those that go on behind it.
		{allOthersWanted(3), 3, [][]int{{0, 1}, {0, 1, 2}, {0, 2}, {0, 2, 1}, {1, 2}}},
		{allOthersWanted(3), 2, [][]int{{0, 1}, {0, 2}, {1, 2}}},
		{allOthersWanted(4), 3, [][]int{{0, 1}, {0, 1, 2}, {0, 1, 3}, {0, 2}, {0, 2, 1}, {0, 2, 3}, {0, 3}, {0, 3, 1}, {0, 3, 2}, {1, 2}, {1, 2, 3}, {1, 3}, {1, 3, 2}, {2, 3}}},
		// Circles of more than k people do not count.
		{fiveShare, 2, nil},
		{fiveShare, 3, [][]int{{0, 1, 2}, {2, 3, 4}}},
		{fiveShare, 5, [][]int{{0, 1, 2}, {2, 3, 4}}},
		{sixShare, 2, [][]int{{2, 5}, {3, 4}}},
		{sixShare, 3, [][]int{{0, 1, 3}, {2, 5}, {3, 4}}},
		{fourApart, 2, [][]int{{0, 2}, {1, 3}}},
		{fourApart, 4, [][]int{{0, 2}, {1, 3}}},
		{fiveApart, 2, [][]int{{0, 3}}},
		{fiveApart, 3, [][]int{{0, 3}, {1, 2, 4}}},
		{sixApart, 3, [][]int{{0, 2, 4}, {1, 3, 5}}},
		{fourMiddle, 4, [][]int{{0, 1}, {1, 2}, {2, 3}}},
		{sixBack, 2, [][]int{{0, 1}}},
		{sixBack, 4, [][]int{{0, 1}, {0, 1, 2}, {0, 1, 2, 3}}},
		{sixBack, 6, [][]int{{0, 1}, {0, 1, 2}, {0, 1, 2, 3}, {0, 1, 2, 3, 4}, {0, 1, 2, 3, 4, 5}}},
	} {
		wantListed(t, c.w, c.k, c.want)
	}
}

// TestWantCirclesOfAll counts the circles if all want all others' things: for each k, the choices of k people times the ways to put them on a circle.
func TestWantCirclesOfAll(t *testing.T) {
	for n, counts := range [][]int{2: {1}, 3: {3, 5}, 4: {6, 14, 20}, 5: {10, 30, 60, 84}, 6: {15, 55, 145, 289, 409}} {
		for i, count := range counts {
			if got := circlesOf(t, allOthersWanted(n), i+2); len(got) != count {
				t.Errorf("WantCircles for %d people has %d of at most %d, want %d", n, len(got), i+2, count)
			}
		}
	}
}

func TestWantJoinedExamples(t *testing.T) {
	for _, c := range []struct {
		w     []int
		k     int
		most  int
		first []int
	}{
		{nothingWanted, 2, 0, []int{0, 1, 2}},
		{nothingWanted, 3, 0, []int{0, 1, 2}},
		// One of both circles that share a person moves: the first list is that of the other one, by which 0 keeps the own thing.
		{threeShare, 2, 2, []int{0, 2, 1}},
		{threeShare, 3, 2, []int{0, 2, 1}},
		{fiveShare, 2, 0, []int{0, 1, 2, 3, 4}},
		{fiveShare, 3, 3, []int{0, 1, 3, 4, 2}},
		{fiveShare, 5, 3, []int{0, 1, 3, 4, 2}},
		{sixShare, 2, 4, []int{0, 1, 5, 4, 3, 2}},
		{sixShare, 3, 5, []int{1, 3, 5, 0, 4, 2}},
		{sixShare, 6, 5, []int{1, 3, 5, 0, 4, 2}},
		{fourApart, 2, 4, []int{2, 3, 0, 1}},
		{fourApart, 4, 4, []int{2, 3, 0, 1}},
		{fiveApart, 2, 2, []int{3, 1, 2, 0, 4}},
		{fiveApart, 3, 5, []int{3, 2, 4, 0, 1}},
		{sixApart, 2, 0, []int{0, 1, 2, 3, 4, 5}},
		{sixApart, 3, 6, []int{2, 3, 4, 5, 0, 1}},
		// To join what is first would leave two people alone.
		{fourMiddle, 2, 4, []int{1, 0, 3, 2}},
		{fourMiddle, 4, 4, []int{1, 0, 3, 2}},
		{sixBack, 2, 2, []int{1, 0, 2, 3, 4, 5}},
		{sixBack, 3, 3, []int{1, 2, 0, 3, 4, 5}},
		{sixBack, 5, 5, []int{1, 2, 3, 4, 0, 5}},
		{sixBack, 6, 6, []int{1, 2, 3, 4, 5, 0}},
	} {
		wantJoined(t, c.w, c.k, c.most, c.first)
	}
}

// TestWantFirstOfSeveral has wants by which several lists take as many.
func TestWantFirstOfSeveral(t *testing.T) {
	for _, c := range []struct {
		w     []int
		k     int
		most  int
		first []int
	}{
		{allOthersWanted(3), 2, 2, []int{0, 2, 1}},
		{allOthersWanted(3), 3, 3, []int{1, 2, 0}},
		{allOthersWanted(4), 2, 4, []int{1, 0, 3, 2}},
		{allOthersWanted(4), 3, 4, []int{1, 0, 3, 2}},
		{allOthersWanted(4), 4, 4, []int{1, 0, 3, 2}},
		{allOthersWanted(5), 2, 4, []int{0, 2, 1, 4, 3}},
		{allOthersWanted(5), 3, 5, []int{1, 0, 3, 4, 2}},
		{allOthersWanted(5), 5, 5, []int{1, 0, 3, 4, 2}},
		{allOthersWanted(6), 2, 6, []int{1, 0, 3, 2, 5, 4}},
		{allOthersWanted(6), 6, 6, []int{1, 0, 3, 2, 5, 4}},
		// 0 takes what 1 has, and not what 2 has, though the circle with 2 alone is the shorter one, or has come first.
		{setsOf([]int{1, 2}, []int{2}, []int{0}), 3, 3, []int{1, 2, 0}},
		{setsOf([]int{1, 2}, []int{0}, []int{0}), 3, 2, []int{1, 0, 2}},
		{setsOf([]int{2, 3}, nil, []int{0, 3}, []int{0, 2}), 3, 3, []int{2, 1, 3, 0}},
		// Who keeps the own thing at 0 is ahead, though circles with 0 are listed ahead.
		{setsOf([]int{1}, []int{0, 2}, []int{3}, []int{1}), 2, 2, []int{1, 0, 2, 3}},
		{setsOf([]int{1}, []int{0, 2}, []int{3, 1}, []int{2}), 4, 4, []int{1, 0, 3, 2}},
		{setsOf([]int{1}, []int{2}, []int{0, 3}, []int{1}, nil), 3, 3, []int{0, 2, 3, 1, 4}},
		{setsOf([]int{5}, []int{2}, []int{1}, []int{4}, []int{3}, []int{0, 1}), 6, 6, []int{5, 2, 1, 4, 3, 0}},
	} {
		best := bestTakes(c.w, c.k)
		if !slices.Equal(best[0], c.first) {
			t.Errorf("of %v with %d, the first list is told to be %v, want %v", c.w, c.k, best[0], c.first)
		}
		wantJoined(t, c.w, c.k, c.most, c.first)
	}
}

// TestWantRings has one circle of all, which counts for k as n alone.
func TestWantRings(t *testing.T) {
	d := dice(110)
	for n := 2; n <= impl.WanterMax; n++ {
		for range 5 {
			ring := randomOrder(&d, n)
			at := slices.Index(ring, 0)
			ring = slices.Concat(ring[at:], ring[:at])
			w := ringWants(n, ring...)
			all, turned := make([]int, n), make([]int, n)
			for i, person := range ring {
				all[person] = ring[(i+1)%n]
				turned[all[person]] = power(2, person)
			}
			wantOfWants(t, w, everyone(n), n, turned)
			for k := 2; k < n; k++ {
				wantJoined(t, w, k, 0, countUp(n))
				wantListed(t, w, k, nil)
			}
			wantJoined(t, w, n, n, all)
			wantListed(t, w, n, [][]int{ring})
		}
	}
}

// TestWantsWithoutCircles has wants that never come back: all but one want something.
func TestWantsWithoutCircles(t *testing.T) {
	for n := 2; n <= impl.WanterMax; n++ {
		chain := withoutWants(ringWants(n, countUp(n)...), n-1)
		for _, w := range [][]int{lesserWanted(n), turnedByTelling(lesserWanted(n)), chain, turnedByTelling(chain), make([]int, n)} {
			wantOfWants(t, w, 0, 0, turnedByTelling(w))
			for k := 2; k <= n; k++ {
				wantJoined(t, w, k, 0, countUp(n))
				wantListed(t, w, k, nil)
			}
		}
	}
}

// TestEverybodyWants goes over wants by which everybody wants something: to go on to somebody wanted always leads back, so there is a circle. Those of at most 2 people may be missing.
func TestEverybodyWants(t *testing.T) {
	all, short := 0, 0
	for _, w := range slices.Concat(sampleWants(40), everyWants(4)) {
		if slices.Contains(w, 0) {
			continue
		}
		n := len(w)
		if on := onCirclesOf(t, w); on == 0 || len(circlesOf(t, w, n)) == 0 || mostOf(t, w, n) == 0 || triedOf(t, w) == 0 {
			t.Errorf("by %v everybody wants something, but WantOn is %d, and WantCircles %v", w, on, circlesOf(t, w, n))
		}
		all++
		if mostOf(t, w, 2) > 0 {
			short++
		}
	}
	wantBoth(t, "there are circles of two", short, all)
}

// TestWantsOfFewPeople has people without wants, and people whose thing nobody wants: one of them, some and all.
func TestWantsOfFewPeople(t *testing.T) {
	for n := 2; n <= impl.WanterMax; n++ {
		for set := range everyone(n) + 1 {
			idle, unwanted := allOthersWanted(n), allOthersWanted(n)
			left := 0
			for person := range n {
				if isIn(set, person) {
					idle, unwanted = withoutWants(idle, person), withoutThing(unwanted, person)
				} else {
					left++
				}
			}
			on := everyone(n) - set
			if left == 1 {
				on, left = 0, 0
			}
			wantOfWants(t, idle, on, left, unwanted)
			wantOfWants(t, unwanted, on, left, idle)
			for k := 2; k <= n; k++ {
				most := left
				if k == 2 {
					most = left / 2 * 2
				}
				wantJoined(t, idle, k, most, bestTakes(idle, k)[0])
				wantJoined(t, unwanted, k, most, bestTakes(idle, k)[0])
				wantListed(t, idle, k, circlesByTelling(unwanted, k))
				wantListed(t, unwanted, k, circlesByTelling(idle, k))
			}
		}
	}
}

// TestWantsByTelling has all wants of two, of three and of four people, and samples of more.
func TestWantsByTelling(t *testing.T) {
	for _, w := range slices.Concat(everyWants(4), sampleWants(40)) {
		wantAllByTelling(t, w)
	}
}

// TestWantSamplesDiffer has samples in which nobody, some and all take something, in which longer circles move more, and in which several lists move as many.
func TestWantSamplesDiffer(t *testing.T) {
	for n := 3; n <= impl.WanterMax; n++ {
		taking, several, more := map[int]bool{}, 0, map[int]bool{}
		for _, w := range someWants(n, 40) {
			taking[mostOf(t, w, n)] = true
			if len(bestTakes(w, n)) > 1 {
				several++
			}
			for k := 3; k <= n; k++ {
				if mostOf(t, w, k) > mostOf(t, w, k-1) {
					more[k] = true
				}
			}
		}
		if len(taking) != n || several == 0 || len(more) != n-2 {
			t.Errorf("samples for %d people: these numbers take something: %v; as many by several lists: %d; more by one more on a circle: %v", n, taking, several, more)
		}
	}
}

// TestWantsAnswerAfresh asks for different wants behind each other, and for the first ones again.
func TestWantsAnswerAfresh(t *testing.T) {
	d := dice(120)
	samples := namedWants()
	for range 300 {
		wantAllByTelling(t, samples[d.below(len(samples))])
	}
}
