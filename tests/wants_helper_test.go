package tests

import (
	"slices"
	"testing"

	"loop.example/tradecircles/impl"
)

// ringsOf has, for each number of people, all lists that may be circles, in the order of lists.
var ringsOf = [][][]int{2: roundsOver(2), 3: roundsOver(3), 4: roundsOver(4), 5: roundsOver(5), 6: roundsOver(6)}

// setsOf tells wants as lists of people, for these are read more easily than numbers.
func setsOf(wanted ...[]int) []int {
	w := make([]int, len(wanted))
	for i, people := range wanted {
		for _, person := range people {
			w[i] += power(2, person)
		}
	}
	return w
}

// By allOthersWanted, each one wants all things but the own one.
func allOthersWanted(n int) []int {
	w := make([]int, n)
	for i := range w {
		w[i] = everyone(n) - power(2, i)
	}
	return w
}

// By ringWants, those of a list want the thing of the next one alone, the last one that of the first one, and all others want nothing.
func ringWants(n int, ring ...int) []int {
	w := make([]int, n)
	for i, person := range ring {
		w[person] = power(2, ring[(i+1)%len(ring)])
	}
	return w
}

// By lesserWanted, each one wants the things of all with lesser numbers: so there is no circle, and the first one alone wants nothing.
func lesserWanted(n int) []int {
	w := make([]int, n)
	for i := range w {
		w[i] = everyone(i)
	}
	return w
}

// Wants of circles that share a person, that are apart, and that differ in what they move.
var (
	nothingWanted = []int{0, 0, 0}

	// On 0 1 and on 1 2 stands the same person.
	threeShare = setsOf([]int{1}, []int{0, 2}, []int{1})
	// On 0 1 2 and on 2 3 4 stands the same person.
	fiveShare = setsOf([]int{1}, []int{2}, []int{0, 3}, []int{4}, []int{2})
	// 0 1 3 shares a person with 3 4, and 2 5 is apart from both.
	sixShare = setsOf([]int{1}, []int{3}, []int{5}, []int{0, 4}, []int{3}, []int{2})

	fourApart = setsOf([]int{2}, []int{3}, []int{0}, []int{1})
	fiveApart = setsOf([]int{3}, []int{2}, []int{4}, []int{0}, []int{1})
	sixApart  = setsOf([]int{2}, []int{3}, []int{4}, []int{5}, []int{0}, []int{1})

	// To join 1 2, which are in the middle, leaves 0 and 3 alone.
	fourMiddle = setsOf([]int{1}, []int{0, 2}, []int{1, 3}, []int{2})
	// 0 wants 1, who wants 2, and so on, and all want what 0 has.
	sixBack = setsOf([]int{1}, []int{0, 2}, []int{0, 3}, []int{0, 4}, []int{0, 5}, []int{0})
)

// randomWants has each one want each thing of others with odds of one to a number.
func randomWants(d *dice, n int, seldom int) []int {
	w := make([]int, n)
	for i := range w {
		for k := range n {
			if i != k && d.below(seldom) == 0 {
				w[i] += power(2, k)
			}
		}
	}
	return w
}

// withoutWants has one person want nothing.
func withoutWants(w []int, person int) []int {
	less := slices.Clone(w)
	less[person] = 0
	return less
}

// withoutThing has nobody want the thing of a person.
func withoutThing(w []int, person int) []int {
	less := slices.Clone(w)
	for i := range less {
		if isIn(less[i], person) {
			less[i] -= power(2, person)
		}
	}
	return less
}

// everyWants returns all wants of n people, which are too many for more than four.
func everyWants(n int) [][]int {
	return slices.DeleteFunc(listsOver(n, 0, everyone(n)), func(w []int) bool {
		return slices.ContainsFunc(countUp(n), func(person int) bool { return isIn(w[person], person) })
	})
}

// someWants has, for a number of people, wants of many and of few things, some of them with a person who wants nothing, or whose thing nobody wants.
func someWants(n int, count int) [][]int {
	d := dice(100 + n)
	all := [][]int{make([]int, n), allOthersWanted(n), ringWants(n, countUp(n)...), lesserWanted(n)}
	for range count {
		w := randomWants(&d, n, 2)
		all = append(all, w, withoutWants(w, d.below(n)), withoutThing(w, d.below(n)))
		all = append(all, ringWants(n, randomOrder(&d, n)...), randomWants(&d, n, 3), randomWants(&d, n, n))
	}
	return all
}

// namedWants are those that have a name above, and wants of each number of people that are circles of all or of few.
func namedWants() [][]int {
	all := [][]int{nothingWanted, threeShare, fiveShare, sixShare, fourApart, fiveApart, sixApart, fourMiddle, sixBack}
	for n := 2; n <= impl.WanterMax; n++ {
		all = append(all, make([]int, n), allOthersWanted(n), lesserWanted(n), ringWants(n, countUp(n)...), ringWants(n, 0, n-1))
		for person := range n {
			all = append(all, withoutWants(allOthersWanted(n), person), withoutThing(allOthersWanted(n), person))
		}
	}
	return all
}

// sampleWants has all wants of two and of three people, and samples of more.
func sampleWants(count int) [][]int {
	all := slices.Concat(namedWants(), everyWants(2), everyWants(3))
	for n := 4; n <= impl.WanterMax; n++ {
		all = append(all, someWants(n, count)...)
	}
	return all
}

func circleByTelling(w []int, ring []int) bool {
	for i := range ring {
		if !isIn(w[ring[i]], ring[(i+1)%len(ring)]) {
			return false
		}
	}
	return true
}

func circlesByTelling(w []int, k int) [][]int {
	return slices.DeleteFunc(slices.Clone(ringsOf[len(w)]), func(ring []int) bool { return len(ring) > k || !circleByTelling(w, ring) })
}

// onByTelling goes from each person to those wanted, to those wanted by these, and so on, and looks for the ones who come back.
func onByTelling(w []int) int {
	on := 0
	for i := range w {
		reached := w[i]
		for range w {
			for k := range w {
				if isIn(reached, k) {
					reached |= w[k]
				}
			}
		}
		if isIn(reached, i) {
			on += power(2, i)
		}
	}
	return on
}

func turnedByTelling(w []int) []int {
	turned := make([]int, len(w))
	for k := range w {
		for i := range w {
			if isIn(w[i], k) {
				turned[k] += power(2, i)
			}
		}
	}
	return turned
}

// longestRing returns how many people are on the longest circle of a list of what each one takes, 1 if all keep their things.
func longestRing(takes []int) int {
	longest := 0
	for i := range takes {
		length := 1
		for at := takes[i]; at != i; at = takes[at] {
			length++
		}
		longest = max(longest, length)
	}
	return longest
}

func othersTaken(takes []int) int {
	count := 0
	for i := range takes {
		if takes[i] != i {
			count++
		}
	}
	return count
}

// takesByTelling returns all lists of what each one may take, the own thing or a wanted one, by circles of at most k, in the order of lists.
func takesByTelling(w []int, k int) [][]int {
	return slices.DeleteFunc(slices.Clone(ordersOf[len(w)]), func(takes []int) bool {
		for i, thing := range takes {
			if thing != i && !isIn(w[i], thing) {
				return true
			}
		}
		return longestRing(takes) > k
	})
}

// bestTakes returns, of what each one may take by circles of at most k, all lists by which the most people take something.
func bestTakes(w []int, k int) [][]int {
	var best [][]int
	for _, takes := range takesByTelling(w, k) {
		if len(best) > 0 && othersTaken(takes) > othersTaken(best[0]) {
			best = nil
		}
		if len(best) == 0 || othersTaken(takes) == othersTaken(best[0]) {
			best = append(best, takes)
		}
	}
	return best
}

// wantJoined has all questions about circles that are joined answered as told.
func wantJoined(t *testing.T, w []int, k int, most int, first []int) {
	t.Helper()
	if got, ok := impl.WantMost(w, k); !ok || got != most {
		t.Errorf("WantMost(%v, %d) = %d, %t, want %d", w, k, got, ok, most)
	}
	if got, ok := impl.WantFirst(w, k); !ok || !slices.Equal(got, first) {
		t.Errorf("WantFirst(%v, %d) = %v, %t, want %v", w, k, got, ok, first)
	}
	if got := impl.WantAll(w, k); got != (most == len(w)) {
		t.Errorf("WantAll(%v, %d) = %t", w, k, got)
	}
}

func wantListed(t *testing.T, w []int, k int, want [][]int) {
	t.Helper()
	if got, ok := impl.WantCircles(w, k); !ok || !sameRows(got, want) {
		t.Errorf("WantCircles(%v, %d) = %v, %t, want %v", w, k, got, ok, want)
	}
}

// wantOfWants has the questions that are about wants alone answered as told.
func wantOfWants(t *testing.T, w []int, on int, try int, turned []int) {
	t.Helper()
	if !impl.WantIn(w) {
		t.Errorf("WantIn(%v) does not hold", w)
	}
	if got, ok := impl.WantOn(w); !ok || got != on {
		t.Errorf("WantOn(%v) = %d, %t, want %d", w, got, ok, on)
	}
	if got, ok := impl.WantTry(w); !ok || got != try {
		t.Errorf("WantTry(%v) = %d, %t, want %d", w, got, ok, try)
	}
	if got, ok := impl.WantTurn(w); !ok || !slices.Equal(got, turned) {
		t.Errorf("WantTurn(%v) = %v, %t, want %v", w, got, ok, turned)
	}
}

// wantAllByTelling has all that the chapter tells of wants held against the definitions.
func wantAllByTelling(t *testing.T, w []int) {
	t.Helper()
	n := len(w)
	for k := 2; k <= n; k++ {
		best := bestTakes(w, k)
		wantJoined(t, w, k, othersTaken(best[0]), best[0])
		wantListed(t, w, k, circlesByTelling(w, k))
	}
	wantOfWants(t, w, onByTelling(w), othersTaken(bestTakes(w, n)[0]), turnedByTelling(w))
	for _, ring := range ringsOf[n] {
		if got := impl.WantCircle(w, ring); got != circleByTelling(w, ring) {
			t.Errorf("WantCircle(%v, %v) = %t", w, ring, got)
		}
	}
}

// circlesOf is for arguments of which it is known that they are wants and a number of people.
func circlesOf(t *testing.T, w []int, k int) [][]int {
	t.Helper()
	circles, ok := impl.WantCircles(w, k)
	if !ok {
		t.Fatalf("WantCircles(%v, %d) fails", w, k)
	}
	return circles
}

func onCirclesOf(t *testing.T, w []int) int {
	t.Helper()
	on, ok := impl.WantOn(w)
	if !ok {
		t.Fatalf("WantOn(%v) fails", w)
	}
	return on
}

func mostOf(t *testing.T, w []int, k int) int {
	t.Helper()
	most, ok := impl.WantMost(w, k)
	if !ok {
		t.Fatalf("WantMost(%v, %d) fails", w, k)
	}
	return most
}

func triedOf(t *testing.T, w []int) int {
	t.Helper()
	most, ok := impl.WantTry(w)
	if !ok {
		t.Fatalf("WantTry(%v) fails", w)
	}
	return most
}

func firstTakes(t *testing.T, w []int, k int) []int {
	t.Helper()
	takes, ok := impl.WantFirst(w, k)
	if !ok || len(takes) != len(w) {
		t.Fatalf("WantFirst(%v, %d) = %v, %t", w, k, takes, ok)
	}
	return takes
}

func turnedWants(t *testing.T, w []int) []int {
	t.Helper()
	turned, ok := impl.WantTurn(w)
	if !ok || len(turned) != len(w) {
		t.Fatalf("WantTurn(%v) = %v, %t", w, turned, ok)
	}
	return turned
}
