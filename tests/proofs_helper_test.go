package tests

import (
	"regexp"
	"slices"
	"strconv"
	"strings"
	"testing"

	"loop.example/tradecircles/impl"
)

// noProof stands for a text that tells nothing about a rate table.
const noProof = -1

func proofText(word string, numbers []int) string {
	text := word
	for _, x := range numbers {
		text += " " + strconv.Itoa(x)
	}
	return text
}

// proofForm is how the text of a proof of any kind is written.
var proofForm = regexp.MustCompile(`^(gains|holds|block|turns)((?: (?:0|[1-9][0-9]*))+)$`)

// readByForm returns the word and the numbers of a text that has the form of a proof. Numbers of too many digits are told as one that is too great for all proofs.
func readByForm(text string) (string, []int) {
	parts := proofForm.FindStringSubmatch(text)
	if parts == nil {
		return "", nil
	}
	var numbers []int
	for _, digits := range strings.Fields(parts[2]) {
		x := mostPrice + 1
		if len(digits) <= 10 {
			x, _ = strconv.Atoi(digits)
		}
		numbers = append(numbers, x)
	}
	return parts[1], numbers
}

func hasRow(rows [][]int, list []int) bool {
	return slices.ContainsFunc(rows, func(row []int) bool { return slices.Equal(row, list) })
}

// rateProofByTelling returns what a text proves of a rate table of which the rounds that gain are told.
func rateProofByTelling(a [][]int, gaining [][]int, text string) int {
	word, numbers := readByForm(text)
	switch {
	case word == "gains" && hasRow(gaining, numbers):
		return 1
	case word == "holds" && len(numbers) == len(a) && allWithin(numbers, 1, mostPrice) && holdsByTelling(a, numbers):
		return 0
	}
	return noProof
}

// isBetterWithin reports whether a giving gives a set of people just their own houses, none of whom likes it less than another giving, and one likes it better.
func isBetterWithin(w [][]int, h []int, g []int, set int) bool {
	some := false
	for i := range w {
		if !isIn(set, i) {
			continue
		}
		if !isIn(set, h[i]) || placeOf(w, i, h[i]) > placeOf(w, i, g[i]) {
			return false
		}
		some = some || h[i] != g[i]
	}
	return some
}

// blockingByTelling returns the givings that are proofs against a giving, of all givings with all sets of people, in the order of lists.
func blockingByTelling(w [][]int, g []int) [][]int {
	var blocking [][]int
	for _, h := range ordersOf[len(w)] {
		for set := range everyone(len(w)) + 1 {
			if isBetterWithin(w, h, g, set) {
				blocking = append(blocking, h)
				break
			}
		}
	}
	return blocking
}

func wantRateIs(t *testing.T, a [][]int, text string, want int) {
	t.Helper()
	got, ok := impl.ProofRateIs(a, text)
	if ok != (want != noProof) || got != max(want, 0) {
		t.Errorf("ProofRateIs(%v, %q) = %d, %t, want %d", a, text, got, ok, want)
	}
}

// wantRateProof and the functions behind it want no proof if the text is empty.
func wantRateProof(t *testing.T, a [][]int, want string) {
	t.Helper()
	if got, ok := impl.ProofRate(a); got != want || ok != (want != "") {
		t.Errorf("ProofRate(%v) = %q, %t, want %q", a, got, ok, want)
	}
}

func wantBlockProof(t *testing.T, w [][]int, g []int, want string) {
	t.Helper()
	if got, ok := impl.ProofBlock(w, g); got != want || ok != (want != "") {
		t.Errorf("ProofBlock(%v, %v) = %q, %t, want %q", w, g, got, ok, want)
	}
}

func wantTurnProof(t *testing.T, w [][]int, g []int, want string) {
	t.Helper()
	if got, ok := impl.ProofTurn(w, g); got != want || ok != (want != "") {
		t.Errorf("ProofTurn(%v, %v) = %q, %t, want %q", w, g, got, ok, want)
	}
}

// firstProof is empty if there is no list to make a proof of.
func firstProof(word string, lists [][]int) string {
	if len(lists) == 0 {
		return ""
	}
	return proofText(word, lists[0])
}

// rateProof returns the proof of the first round that gains, or, if there is none, the one of the prices that are most from each money to the money 0.
func rateProof(a [][]int, gaining [][]int) string {
	if len(gaining) > 0 {
		return firstProof("gains", gaining)
	}
	return proofText("holds", withoutDivisor(stepsBack(a)))
}

// wantRateProofs has all that the chapter tells of a rate table held against the definitions: for all ways of its moneys, and for the prices that are told.
func wantRateProofs(t *testing.T, a [][]int, prices [][]int) {
	t.Helper()
	gaining := roundsThatGain(a)
	wantRateProof(t, a, rateProof(a, gaining))
	wantRateIs(t, a, rateProof(a, gaining), min(len(gaining), 1))
	for _, way := range waysOver(len(a)) {
		for _, word := range []string{"gains", "holds"} {
			text := proofText(word, way)
			wantRateIs(t, a, text, rateProofByTelling(a, gaining, text))
		}
	}
	for _, p := range prices {
		text := proofText("holds", p)
		wantRateIs(t, a, text, rateProofByTelling(a, gaining, text))
	}
}

// wantHouseProofs has all that the chapter tells of a giving held against the lists that are proofs: for all givings, and for all orders.
func wantHouseProofs(t *testing.T, w [][]int, g []int, blocking [][]int, orders [][]int) {
	t.Helper()
	wantBlockProof(t, w, g, firstProof("block", blocking))
	wantTurnProof(t, w, g, firstProof("turns", orders))
	for _, list := range ordersOf[len(w)] {
		if got := impl.ProofBlockIs(w, g, proofText("block", list)); got != hasRow(blocking, list) {
			t.Errorf("ProofBlockIs(%v, %v, %v) = %t", w, g, list, got)
		}
		if got := impl.ProofTurnIs(w, g, proofText("turns", list)); got != hasRow(orders, list) {
			t.Errorf("ProofTurnIs(%v, %v, %v) = %t", w, g, list, got)
		}
	}
}

// wantHouseProofsByTelling has all givings of wishes.
func wantHouseProofsByTelling(t *testing.T, w [][]int) {
	t.Helper()
	taken := allTakenByTelling(w)
	for _, g := range ordersOf[len(w)] {
		wantHouseProofs(t, w, g, blockingByTelling(w, g), ordersByTelling(taken, g))
	}
}

// wantNoText has a text prove nothing, of a rate table, of wishes and of a giving.
func wantNoText(t *testing.T, a [][]int, w [][]int, g []int, text string) {
	t.Helper()
	wantRateIs(t, a, text, noProof)
	if impl.ProofBlockIs(w, g, text) {
		t.Errorf("ProofBlockIs(%v, %v, %q) holds", w, g, text)
	}
	if impl.ProofTurnIs(w, g, text) {
		t.Errorf("ProofTurnIs(%v, %v, %q) holds", w, g, text)
	}
}
