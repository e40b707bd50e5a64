package tests

import (
	"slices"
	"strconv"
	"strings"
	"testing"

	"loop.example/tradecircles/impl"
)

// otherSpaces are texts that stand for the space between two parts of a proof and are none.
var otherSpaces = []string{"", "  ", "   ", "\t", "\n", "\r\n", "\r", "\v", "\f", "\x00", ",", ", ", " ,", ";", ":", "/", "-", " -", "+", " +", "_", ".", "|", " \t", "\t ", " \n", "\n ", "\u00a0", "\u2003", "\u3000", "\x80", "\xff", " 0", "0 ", " 00"}

// otherNumbers returns how a number may be written and is not in a proof.
func otherNumbers(x int) []string {
	digits := strconv.Itoa(x)
	return []string{"", "0" + digits, "00" + digits, strings.Repeat("0", 1000) + digits, "+" + digits, "-" + digits, "--" + digits, "+0" + digits, digits + ".", digits + ".0", "." + digits, digits + "e0", digits + "x", "x" + digits, "0x" + digits, "0b" + digits, "0o" + digits, digits + "_", "_" + digits, "0_" + digits, "(" + digits + ")", "'" + digits + "'", digits + ",", digits + "\x00", "\x00" + digits, digits + "\n", "x", "a", "-", "+", "NaN", "Inf", "\u0661", "\uff11", "\u00b2", digits + strings.Repeat("0", 20), strings.Repeat("9", 10), strings.Repeat("9", 19), "18446744073709551616", "18446744073709551617", strings.Repeat("1", 5000)}
}

// otherWords are words that no proof has.
func otherWords(word string) []string {
	return []string{"", strings.ToUpper(word), strings.ToUpper(word[:1]) + word[1:], word[:len(word)-1] + strings.ToUpper(word[len(word)-1:]), word[1:], word[:len(word)-1], word + "s", "s" + word, word + word, word + "\x00", word + ":", "proof", "gain", "hold", "blocks", "turn", "rates", "i", "0", "1", "\xff"}
}

// miswritten returns texts that tell a proof with the same word and numbers in another way, or only some of it.
func miswritten(word string, numbers []int) []string {
	text := proofText(word, numbers)
	all := []string{"", " ", "\n", word, word + " ", word + "  ", " " + word, text + text, text + " " + text, text + "\n" + text, strings.ToUpper(text), text + " .", text + " x", text + " -1", text + " i"}
	for _, space := range otherSpaces[1:] {
		all = append(all, text+space, space+text, word+space, space)
	}
	all = append(all, text+" ", " "+text, " "+text+" ", text+"  ")
	for _, other := range otherWords(word) {
		all = append(all, proofText(other, numbers))
	}
	parts := strings.Split(text, " ")
	for at := 1; at < len(parts); at++ {
		ahead, behind := strings.Join(parts[:at], " "), strings.Join(parts[at:], " ")
		for _, space := range otherSpaces {
			all = append(all, ahead+space+behind)
		}
		for _, other := range otherNumbers(numbers[at-1]) {
			all = append(all, strings.Join(slices.Concat(parts[:at], []string{other}, parts[at+1:]), " "))
		}
	}
	for _, space := range otherSpaces {
		all = append(all, strings.Join(parts, space), word+" "+strings.Join(parts[1:], space))
	}
	return all
}

// proven is a rate table, wishes and a giving, with a proof of some of these.
type proven struct {
	a       [][]int
	w       [][]int
	g       []int
	word    string
	numbers []int
}

// sampleProven has proofs of each kind, for two moneys or people, and for more.
func sampleProven() []proven {
	two := [][]int{{1, 0}, {0, 1}}
	return []proven{
		{twoGain, two, []int{0, 1}, "gains", []int{0, 1}},
		{evenTable(5, 13), threeRing, []int{0, 1, 2}, "gains", []int{0, 4, 2, 1, 3}},
		{threeMix, fiveAlike, []int{3, 1, 4, 0, 2}, "gains", []int{1, 2}},
		{twoFair, two, []int{0, 1}, "holds", []int{2, 1}},
		{twoLose, threeSwap, []int{0, 2, 1}, "holds", []int{1000000000, 500000000}},
		{evenTable(5, 11), fiveRing, []int{0, 1, 2, 3, 4}, "holds", []int{12, 11, 11, 11, 11}},
		{twoFair, two, []int{0, 1}, "block", []int{1, 0}},
		{threeMix, threeSwap, []int{1, 2, 0}, "block", []int{2, 1, 0}},
		{fiveFair, fiveAlike, []int{3, 1, 2, 0, 4}, "block", []int{4, 2, 1, 3, 0}},
		{twoGain, two, []int{1, 0}, "turns", []int{0, 1}},
		{threeFair, threeSwap, []int{1, 0, 2}, "turns", []int{1, 2, 0}},
		{fiveMix, fiveAlike, []int{0, 1, 2, 3, 4}, "turns", []int{3, 1, 4, 0, 2}},
	}
}

// holds reports whether a text is a proof about what this one is about.
func (p proven) holds(text string) bool {
	switch p.word {
	case "block":
		return impl.ProofBlockIs(p.w, p.g, text)
	case "turns":
		return impl.ProofTurnIs(p.w, p.g, text)
	}
	_, ok := impl.ProofRateIs(p.a, text)
	return ok
}

// byTelling has all questions about a text, of whatever word, answered by the own reading.
func (p proven) byTelling(t *testing.T, gaining [][]int, blocking [][]int, orders [][]int, text string) bool {
	t.Helper()
	rate := rateProofByTelling(p.a, gaining, text)
	wantRateIs(t, p.a, text, rate)
	word, numbers := readByForm(text)
	block := word == "block" && hasRow(blocking, numbers)
	if got := impl.ProofBlockIs(p.w, p.g, text); got != block {
		t.Errorf("ProofBlockIs(%v, %v, %q) = %t", p.w, p.g, text, got)
	}
	turns := word == "turns" && hasRow(orders, numbers)
	if got := impl.ProofTurnIs(p.w, p.g, text); got != turns {
		t.Errorf("ProofTurnIs(%v, %v, %q) = %t", p.w, p.g, text, got)
	}
	return rate != noProof || block || turns
}

func TestMiswrittenProofs(t *testing.T) {
	for _, p := range sampleProven() {
		if !p.holds(proofText(p.word, p.numbers)) {
			t.Errorf("%s %v is no proof", p.word, p.numbers)
		}
		for _, text := range miswritten(p.word, p.numbers) {
			wantNoText(t, p.a, p.w, p.g, text)
		}
	}
}

// TestSpoiledProofs has proofs with one byte changed, taken out, put in, or exchanged with the one behind it.
func TestSpoiledProofs(t *testing.T) {
	all, proofs := 0, 0
	for _, p := range sampleProven() {
		gaining, blocking, orders := roundsThatGain(p.a), blockingByTelling(p.w, p.g), ordersByTelling(allTakenByTelling(p.w), p.g)
		for _, text := range spoiledTexts(proofText(p.word, p.numbers)) {
			all++
			if p.byTelling(t, gaining, blocking, orders, text) {
				proofs++
			}
		}
	}
	wantBoth(t, "a spoiled proof is one", proofs, all)
}

// TestEveryTextOfNumbers holds all texts of a word and few parts behind it against the own reading.
func TestEveryTextOfNumbers(t *testing.T) {
	for _, word := range []string{"gains", "holds", "block", "turns"} {
		all, proofs := 0, 0
		for _, p := range sampleProven() {
			if p.word != word {
				continue
			}
			gaining, blocking, orders := roundsThatGain(p.a), blockingByTelling(p.w, p.g), ordersByTelling(allTakenByTelling(p.w), p.g)
			for _, behind := range textsOver(6, " ", "0", "1", "2", "-") {
				all++
				if p.byTelling(t, gaining, blocking, orders, word+behind) {
					proofs++
				}
			}
		}
		wantBoth(t, "a text with the word "+word+" is a proof", proofs, all)
	}
}

// TestProofsOfOtherWords has the numbers of each proof behind each word.
func TestProofsOfOtherWords(t *testing.T) {
	for _, p := range sampleProven() {
		gaining, blocking, orders := roundsThatGain(p.a), blockingByTelling(p.w, p.g), ordersByTelling(allTakenByTelling(p.w), p.g)
		for _, other := range sampleProven() {
			for _, word := range []string{"gains", "holds", "block", "turns"} {
				p.byTelling(t, gaining, blocking, orders, proofText(word, other.numbers))
			}
		}
	}
}

// TestLongProofs has texts that are too long by far, which take no time.
func TestLongProofs(t *testing.T) {
	const many = 1 << 20
	for _, p := range sampleProven() {
		text := proofText(p.word, p.numbers)
		for _, long := range []string{
			text + strings.Repeat(" ", many),
			text + strings.Repeat(" 0", many),
			text + strings.Repeat("0", many),
			strings.Repeat(" ", many) + text,
			strings.Repeat(text+" ", many/10),
			p.word + strings.Repeat(" 1", many),
			p.word + " " + strings.Repeat("0", many) + text[len(p.word)+1:],
			strings.Repeat(p.word, many/10),
			strings.Repeat("\n", many),
		} {
			wantNoText(t, p.a, p.w, p.g, long)
		}
	}
}

// wantNoRateProof has no text prove anything of what is no rate table.
func wantNoRateProof(t *testing.T, a [][]int) {
	t.Helper()
	wantRateProof(t, a, "")
	n := min(max(len(a), 1), impl.MoneyMax+1)
	moneys := []int{0, 1, 2, 3, 4, 5}[:n]
	for _, text := range []string{"", "gains", "holds", "gains 0 1", "gains 1 2", "holds 2 1", "holds 1 1 1", proofText("gains", moneys), proofText("holds", slices.Repeat([]int{1}, n)), proofText("holds", slices.Repeat([]int{mostPrice}, n))} {
		wantRateIs(t, a, text, noProof)
	}
}

// TestProofsOfNoTables also spoils tables of which the proofs are known, and keeps the proofs.
func TestProofsOfNoTables(t *testing.T) {
	for _, a := range noTables() {
		wantNoRateProof(t, a)
	}
	for _, a := range [][][]int{twoGain, twoFair, twoLose, threeMix, detour, fiveFair, fiveMix, evenTable(5, 1), evenTable(5, 144)} {
		text := rateProof(a, roundsThatGain(a))
		for _, b := range spoiled(a) {
			if len(b) != len(a) || !impl.RateIn(b) {
				wantNoRateProof(t, b)
				wantRateIs(t, b, text, noProof)
			}
		}
	}
}

// wantNoHouseProof has no text prove anything of what are no wishes, or no giving for these.
func wantNoHouseProof(t *testing.T, w [][]int, g []int) {
	t.Helper()
	wantBlockProof(t, w, g, "")
	wantTurnProof(t, w, g, "")
	for n := 2; n <= impl.PeopleMax; n++ {
		for _, list := range [][]int{countUp(n), backwards(countUp(n)), g} {
			if text := proofText("block", list); impl.ProofBlockIs(w, g, text) {
				t.Errorf("ProofBlockIs(%v, %v, %q) holds", w, g, text)
			}
			if text := proofText("turns", list); impl.ProofTurnIs(w, g, text) {
				t.Errorf("ProofTurnIs(%v, %v, %q) holds", w, g, text)
			}
		}
	}
}

func TestProofsOfNoWishes(t *testing.T) {
	for _, w := range noWishes() {
		for n := 2; n <= impl.PeopleMax; n++ {
			wantNoHouseProof(t, w, countUp(n))
			wantNoHouseProof(t, w, backwards(countUp(n)))
		}
		wantNoHouseProof(t, w, nil)
	}
}

// TestSpoiledGivenHouses spoils wishes and givings of which the proofs are known, and keeps the proofs.
func TestSpoiledGivenHouses(t *testing.T) {
	for _, p := range sampleProven() {
		if p.word != "block" && p.word != "turns" {
			continue
		}
		text := proofText(p.word, p.numbers)
		for _, w := range spoiledWishes(p.w) {
			wantNoHouseProof(t, w, p.g)
			if (proven{p.a, w, p.g, p.word, p.numbers}).holds(text) {
				t.Errorf("%q holds for %v and %v", text, w, p.g)
			}
		}
		for _, g := range noOrders(p.g) {
			wantNoHouseProof(t, p.w, g)
			if (proven{p.a, p.w, g, p.word, p.numbers}).holds(text) {
				t.Errorf("%q holds for %v and %v", text, p.w, g)
			}
		}
		for n := 2; n <= impl.PeopleMax; n++ {
			if n != len(p.w) {
				wantNoHouseProof(t, p.w, countUp(n))
				wantNoHouseProof(t, allAlike(countUp(n)), p.g)
			}
		}
	}
}

// TestProofsOfNoLists spoils the lists that are proofs.
func TestProofsOfNoLists(t *testing.T) {
	for _, p := range sampleProven() {
		gaining, blocking, orders := roundsThatGain(p.a), blockingByTelling(p.w, p.g), ordersByTelling(allTakenByTelling(p.w), p.g)
		for _, list := range noOrders(p.numbers) {
			is := p.byTelling(t, gaining, blocking, orders, proofText(p.word, list))
			if is && (p.word == "block" || p.word == "turns") {
				t.Errorf("%s %v is a proof", p.word, list)
			}
		}
	}
}

func callAllProofs(a [][]int, w [][]int, g []int, text string) {
	impl.ProofRate(a)
	impl.ProofRateIs(a, text)
	impl.ProofBlock(w, g)
	impl.ProofBlockIs(w, g, text)
	impl.ProofTurn(w, g)
	impl.ProofTurnIs(w, g, text)
}

// TestProofArgumentsStay also has any panic fail, for all kinds of arguments, valid or not.
func TestProofArgumentsStay(t *testing.T) {
	tables := [][][]int{nil, {{12}}, {{12, 0}, {1, 12}}, evenTable(6, 12), twoGain, twoLose, threeMix, detour, fiveMix, fiveFair}
	wishes := [][][]int{nil, {{0}}, {{0, 0}, {1, 0}}, {{1, 0}, {0, 1}}, threeSwap, threeRing, fourPairs, fiveAlike, fiveRing, allAlike([]int{0, 1, 2, 3, 4, 5})}
	givings := [][]int{nil, {0}, {0, 1}, {1, 0}, {0, 0}, {1, 2, 0}, {0, 1, 2}, {1, 0, 2, 3}, {3, 1, 2, 0, 4}, {0, 1, 2, 3, 4}, {-1, 7}, {0, 1, 2, 3, 4, 5}}
	texts := []string{"", " ", "gains", "holds ", "gains 0 1", "holds 2 1", "holds 1 2 3 4 6", "block 1 0", "block 1 0 2", "block 0 1 2 3 4", "turns 0 1 2", "turns 4 3 2 1 0", "gains 99999999999999999999", "block -1 0", "turns \xff", "holds 0 0 "}
	for i, rows := range tables {
		for k, people := range wishes {
			for m, list := range givings {
				a, w, g, text := roomyRows(rows), roomyRows(people), roomy(list), texts[(i+k+m)%len(texts)]
				rowsBefore, peopleBefore, listBefore, textBefore := rowsWithRoom(a), rowsWithRoom(w), withRoom(g), string([]byte(text))
				callAllProofs(a, w, g, text)
				if !sameRows(rowsBefore, rowsWithRoom(a)) || !sameRows(peopleBefore, rowsWithRoom(w)) || !slices.Equal(listBefore, withRoom(g)) || text != textBefore {
					t.Fatalf("the arguments %v, %v, %v, %q have become %v, %v, %v, %q", rows, people, list, textBefore, a, w, g, text)
				}
			}
		}
	}
	for _, text := range slices.Concat(noTerms(), texts) {
		for k := range wishes {
			callAllProofs(tables[k], wishes[k], givings[k], text)
		}
	}
}

// TestProofsAreApart overwrites the arguments, which changes no proof that is made of them.
func TestProofsAreApart(t *testing.T) {
	for _, p := range sampleProven() {
		a, w, g := roomyRows(p.a), roomyRows(p.w), roomy(p.g)
		rate, _ := impl.ProofRate(a)
		block, _ := impl.ProofBlock(w, g)
		turn, _ := impl.ProofTurn(w, g)
		before := []string{string([]byte(rate)), string([]byte(block)), string([]byte(turn))}
		overwriteRows(a)
		overwriteRows(w)
		overwrite(g)
		if got := []string{rate, block, turn}; !slices.Equal(got, before) {
			t.Errorf("the proofs %q have become %q", before, got)
		}
		wantRateProof(t, p.a, before[0])
		wantBlockProof(t, p.w, p.g, before[1])
		wantTurnProof(t, p.w, p.g, before[2])
	}
}
