package tests

import (
	"slices"
	"testing"

	"loop.example/tradecircles/impl"
)

func TestPromise49(t *testing.T) {
	all, met := 0, 0
	for _, w := range slices.Concat(sampleWants(40), everyWants(4), notWants()) {
		all++
		if !impl.WantIn(w) {
			continue
		}
		met++
		if turned := turnedWants(t, w); !impl.WantIn(turned) {
			t.Errorf("WantTurn(%v) = %v are no wants", w, turned)
		}
		if !impl.WantIn(withoutWants(w, 0)) {
			t.Errorf("WantIn(%v) does not hold without the wants of the first one", w)
		}
	}
	wantBoth(t, "WantIn holds", met, all)
}

func TestPromise50(t *testing.T) {
	all, met := 0, 0
	for _, w := range slices.Concat(sampleWants(20), everyWants(4)) {
		turned, on := turnedWants(t, w), onCirclesOf(t, w)
		for _, ring := range ringsOf[len(w)] {
			all++
			if !impl.WantCircle(w, ring) {
				continue
			}
			met++
			back := slices.Clone(ring)
			slices.Reverse(back[1:])
			if !impl.WantCircle(turned, back) {
				t.Errorf("WantCircle(%v, %v) holds, but not of %v turned, %v", w, ring, back, turned)
			}
			for _, person := range ring {
				if !isIn(on, person) {
					t.Errorf("WantCircle(%v, %v) holds, but WantOn is %d", w, ring, on)
				}
			}
		}
	}
	wantBoth(t, "WantCircle holds", met, all)
}

func TestPromise51(t *testing.T) {
	all, none := 0, 0
	for _, w := range slices.Concat(sampleWants(40), everyWants(4)) {
		turned := turnedWants(t, w)
		for k := 2; k <= len(w); k++ {
			circles := circlesOf(t, w, k)
			for i, circle := range circles {
				if !impl.WantCircle(w, circle) || len(circle) > k {
					t.Errorf("WantCircles(%v, %d) has %v", w, k, circle)
				}
				// In the order of lists, each one once.
				if i > 0 && slices.Compare(circles[i-1], circle) >= 0 {
					t.Errorf("WantCircles(%v, %d) has %v ahead of %v", w, k, circles[i-1], circle)
				}
			}
			if back := circlesOf(t, turned, k); len(back) != len(circles) {
				t.Errorf("WantCircles(%v, %d) = %v, but turned %v", w, k, circles, back)
			}
			all++
			if len(circles) == 0 {
				none++
			}
		}
	}
	wantBoth(t, "there are no circles", none, all)
}

func TestPromise52(t *testing.T) {
	all, none := 0, 0
	for _, w := range slices.Concat(sampleWants(40), everyWants(4)) {
		on := onCirclesOf(t, w)
		if turned := onCirclesOf(t, turnedWants(t, w)); turned != on {
			t.Errorf("WantOn(%v) = %d, but turned %d", w, on, turned)
		}
		if circles := circlesOf(t, w, len(w)); (on == 0) != (len(circles) == 0) {
			t.Errorf("WantOn(%v) = %d, but the circles are %v", w, on, circles)
		}
		all++
		if on == 0 {
			none++
		}
	}
	wantBoth(t, "WantOn is 0", none, all)
}

func TestPromise53(t *testing.T) {
	all, none, pairs, more := 0, 0, 0, 0
	for _, w := range slices.Concat(sampleWants(40), everyWants(4)) {
		turned := turnedWants(t, w)
		for k := 2; k <= len(w); k++ {
			most := mostOf(t, w, k)
			if back := mostOf(t, turned, k); back != most {
				t.Errorf("WantMost(%v, %d) = %d, but turned %d", w, k, most, back)
			}
			if circles := circlesOf(t, w, k); (most == 0) != (len(circles) == 0) {
				t.Errorf("WantMost(%v, %d) = %d, but the circles are %v", w, k, most, circles)
			}
			all++
			if most == 0 {
				none++
			}
			if k == len(w) {
				continue
			}
			longer := mostOf(t, w, k+1)
			if longer < most {
				t.Errorf("WantMost(%v) is %d for %d and %d for one more", w, most, k, longer)
			}
			pairs++
			if longer > most {
				more++
			}
		}
	}
	wantBoth(t, "WantMost is 0", none, all)
	wantBoth(t, "WantMost is more for one more", more, pairs)
}

func TestPromise54(t *testing.T) {
	all, less := 0, 0
	for _, w := range slices.Concat(sampleWants(100), everyWants(4)) {
		try, most := triedOf(t, w), mostOf(t, w, len(w))
		if try != most {
			t.Errorf("WantTry(%v) = %d, but WantMost is %d", w, try, most)
		}
		on := 0
		for person := range w {
			if isIn(onCirclesOf(t, w), person) {
				on++
			}
		}
		if try > on {
			t.Errorf("WantTry(%v) = %d, but %d are on circles", w, try, on)
		}
		all++
		if try < on {
			less++
		}
	}
	wantBoth(t, "not all on circles take something", less, all)
}

func TestPromise55(t *testing.T) {
	for _, w := range slices.Concat(sampleWants(40), everyWants(4)) {
		for k := 2; k <= len(w); k++ {
			takes, most := firstTakes(t, w, k), mostOf(t, w, k)
			if !allWithin(takes, 0, len(w)-1) || !allDifferent(takes) || othersTaken(takes) != most {
				t.Errorf("WantFirst(%v, %d) = %v, but WantMost is %d", w, k, takes, most)
			}
			for i, thing := range takes {
				if thing != i && !isIn(w[i], thing) {
					t.Errorf("WantFirst(%v, %d) = %v, but %d does not want %d", w, k, takes, i, thing)
				}
			}
			if longestRing(takes) > k {
				t.Errorf("WantFirst(%v, %d) = %v has a longer circle", w, k, takes)
			}
		}
	}
}

func TestPromise56(t *testing.T) {
	all, same := 0, 0
	for _, w := range slices.Concat(sampleWants(40), everyWants(4)) {
		turned := turnedWants(t, w)
		if back := turnedWants(t, turned); !slices.Equal(back, w) {
			t.Errorf("WantTurn(%v) = %v, which leads to %v", w, turned, back)
		}
		if try, back := triedOf(t, w), triedOf(t, turned); try != back {
			t.Errorf("WantTry(%v) = %d, but turned %d", w, try, back)
		}
		all++
		if slices.Equal(turned, w) {
			same++
		}
	}
	wantBoth(t, "wants turned are the same", same, all)
}

func TestPromise57(t *testing.T) {
	all, met := 0, 0
	for _, w := range slices.Concat(sampleWants(40), everyWants(4)) {
		n := len(w)
		for k := 2; k <= n; k++ {
			all++
			if !impl.WantAll(w, k) {
				continue
			}
			met++
			if try, most, on := triedOf(t, w), mostOf(t, w, k), onCirclesOf(t, w); try != n || most != n || on != everyone(n) {
				t.Errorf("WantAll(%v, %d) holds, but WantTry is %d, WantMost %d, WantOn %d", w, k, try, most, on)
			}
		}
	}
	wantBoth(t, "WantAll holds", met, all)
}

func TestPromise58(t *testing.T) {
	counts := map[int]bool{}
	for _, w := range slices.Concat(sampleWants(40), everyWants(4)) {
		most, try := mostOf(t, w, 2), triedOf(t, w)
		if most%2 != 0 || most > try {
			t.Errorf("WantMost(%v, 2) = %d, WantTry %d", w, most, try)
		}
		counts[most] = true
	}
	if len(counts) != 4 {
		t.Errorf("these numbers of people are on circles of two: %v", counts)
	}
}
