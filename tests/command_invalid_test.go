package tests

import (
	"slices"
	"strings"
	"testing"

	"loop.example/tradecircles/impl"
)

// failingChanges returns lines of each word that changes something, all of which fail for n people.
func failingChanges(n int) []string {
	up := countUp(n)
	more, fewer := append(slices.Clone(up), n), up[:n-1]
	twice := append(slices.Clone(fewer), 0)
	beyond := append(slices.Clone(fewer), n)
	lines := []string{"wishes ", "wishes x", "wishes 0", "wishes 0,1", "wishes 0/1", "wishes 0,1/0", "wishes 0,1/1,1", "wishes 0,1/1,2", "wishes 1,2/2,1", "wishes 0,1/1,0/", "wishes 0,1//1,0", "wishes /0,1/1,0", "wishes 0,1/1,0,", "wishes 0 1/1 0", "wishes 0,1/1,0 ", "wishes  0,1/1,0", "wishes 0,0001/1,0", "wishes 0,1/1,-0", rowsLine("wishes", allAlike([]int{0, 1, 2, 3, 4, 5}))}
	for _, w := range [][][]int{allAlike(up), likeOwnLeast(n)} {
		spoiled := copyRows(w)
		spoiled[n-1] = twice
		lines = append(lines, rowsLine("wishes", spoiled), rowsLine("wishes", w[1:]), rowsLine("wishes", append(copyRows(w), up)), wishesLine(w)+"/", wishesLine(w)+" ", "wishes "+printedNumbers(up, " "))
	}
	for _, word := range []string{"give", "take"} {
		lines = append(lines, word+" ", word+" x", word+" "+printedNumbers(up, ","), word+" "+printedNumbers(up, "/"), word+" "+printedNumbers(up, "  "), numbersLine(word, up)+" ", word+"  "+printedNumbers(up, " "), numbersLine(word, up)+" x")
		for _, list := range [][]int{more, fewer, twice, beyond, {0}, {n}, slices.Repeat([]int{0}, n), allTimes(up, 2)} {
			lines = append(lines, numbersLine(word, list))
		}
	}
	for _, people := range [][]int{{0}, {n - 1}, {0, 0}, {n - 1, n - 1}, {0, n}, {n, 0}, {n, n}, {0, 999}, {0, 1, 0}, {0, 1, 1}, {0, 1, 0, 1}} {
		lines = append(lines, numbersLine("swap", people))
	}
	lines = append(lines, "swap ", "swap x", "swap 0 ", "swap 0 1 ", "swap 0  1", "swap  0 1", "swap 0,1", "swap 0/1", "swap -0 1", "swap 0 0001", "swap 0 1 x")
	for _, text := range noTerms() {
		if !strings.Contains(text, "\n") {
			lines = append(lines, "term "+text)
		}
	}
	beyondLetters := ("abcdef")[:n+1]
	return append(lines, "term ["+beyondLetters+"]", "term [a"+beyondLetters[n:]+"]", "term ([ab].["+beyondLetters[n-1:]+"])", "term i ", "term  [ab]", "term [ab] ", "term "+strings.Repeat("-", mostTermBytes)+"i")
}

// TestFailuresChangeNothing has what show, turns and goods print ahead of lines that fail, and the same behind them.
func TestFailuresChangeNothing(t *testing.T) {
	d := dice(720)
	for n := 2; n <= impl.PeopleMax; n++ {
		for at, line := range failingChanges(n) {
			w, g := randomWishes(&d, n), randomOrder(&d, n)
			if at%4 == 0 {
				w, g = likeOwnLeast(n), countUp(n)
			}
			wantChangeless(t, w, g, line, "no")
		}
	}
}

// TestOtherLinesChangeNothing has lines that would change something if their word were written otherwise, or had a rest.
func TestOtherLinesChangeNothing(t *testing.T) {
	for _, line := range []string{"", " ", "wishes", "give", "take", "swap", "term", "trade ", "trade x", "Trade", "TRADE", " trade", "trade\r", "trade\t", "Wishes 0,1/1,0", "wish 0,1/1,0", "wishess 0,1/1,0", " wishes 0,1/1,0", "wishes\t0,1/1,0", "wishes0,1/1,0", "Give 1 0 2", "gives 1 0 2", "giv 1 0 2", " give 1 0 2", "give1 0 2", "give\t1 0 2", "Take 1 0 2", "takes 1 0 2", " take 1 0 2", "Swap 0 1", "swaps 0 1", " swap 0 1", "swap0 1", "Term [ab]", "terms [ab]", " term [ab]", "term[ab]", "term\t[ab]"} {
		wantChangeless(t, threeSwap, []int{2, 0, 1}, line, "what")
		wantChangeless(t, threeRing, []int{0, 2, 1}, line, "what")
	}
}

// TestQuestionsChangeNothing has each word that only asks, with rests as told and with such that fail.
func TestQuestionsChangeNothing(t *testing.T) {
	d := dice(721)
	changing := []string{"wishes", "give", "trade", "take", "swap", "term"}
	for _, w := range [][][]int{threeSwap, threeRing, {{1, 0}, {0, 1}}, fourPairs, fiveAlike, fiveRing} {
		for range 200 {
			g := randomOrder(&d, len(w))
			line := randomLine(&d, len(w))
			word, _, _ := strings.Cut(line, " ")
			if slices.Contains(changing, word) {
				continue
			}
			s := scriptState{copyRows(w), slices.Clone(g)}
			wantChangeless(t, w, g, line, s.byLine(line))
			wantChangeless(t, w, g, word+" \x00", map[bool]string{true: "what", false: "no"}[scriptWords[word] == restNone])
		}
	}
}

// TestFunctionsThatFail has each word with rests that are written as told, and for which the function fails.
func TestFunctionsThatFail(t *testing.T) {
	written := func(v [][]int) bool {
		for _, row := range v {
			if len(row) == 0 || !allWithin(row, 0, 999) {
				return false
			}
		}
		return len(v) > 0 && len(v) <= 10 && len(v[0]) <= 10
	}
	for _, a := range noTables() {
		if written(a) {
			wantLine(t, rowsLine("rates", a), "no")
		}
	}
	for _, w := range noWishes() {
		if written(w) {
			wantLine(t, wishesLine(w), "no")
		}
	}
	for _, v := range notBids() {
		for _, word := range []string{"best", "first", "low", "high", "pays"} {
			if written(v) {
				wantLine(t, rowsLine(word, v), "no")
			}
		}
	}
	for n := 2; n <= impl.WanterMax; n++ {
		for person := range n {
			own := make([]int, n)
			own[person] = power(2, person)
			beyond := allOthersWanted(n)
			beyond[person] += power(2, n)
			for _, w := range [][]int{own, beyond} {
				wantLine(t, numbersLine("wants", w), "no")
				wantLine(t, numbersLine("circles", w), "no")
			}
		}
		for _, number := range []int{0, mostOddsNumber + 1, 999} {
			o := slices.Repeat([]int{2}, n)
			o[n-1] = number
			wantLine(t, numbersLine("odds", o), "no")
			wantLine(t, numbersLine("stakes", o), "no")
		}
	}
}

// TestEveryRestOfNumbers holds all rests of few parts against the own reading.
func TestEveryRestOfNumbers(t *testing.T) {
	for _, c := range []struct {
		word  string
		most  int
		parts []string
	}{
		{"give", 6, []string{" ", "0", "1", "2"}},
		{"take", 6, []string{" ", "0", "1", "2"}},
		{"swap", 7, []string{" ", "0", "1"}},
		{"swap", 4, []string{" ", "0", "2", "3", ",", "-"}},
		{"odds", 5, []string{" ", "0", "2", "20", "-"}},
		{"stakes", 5, []string{" ", "3", "00", ",", "+"}},
		{"wants", 7, []string{" ", "2", "1"}},
		{"circles", 5, []string{" ", "2", "01", "4", "/"}},
	} {
		all, answered := 0, 0
		for _, rest := range textsOver(c.most, c.parts...) {
			all++
			if !strings.HasPrefix(wantTold(t, c.word+" "+rest+"\nshow\n"), "no\n") {
				answered++
			}
		}
		wantBoth(t, c.word+" is answered", answered, all)
	}
}

// TestEveryRestOfRows holds all rests of few parts against the own reading.
func TestEveryRestOfRows(t *testing.T) {
	for _, c := range []struct {
		word  string
		most  int
		parts []string
	}{
		{"wishes", 7, []string{",", "/", "0", "1"}},
		{"wishes", 4, []string{"0,1", "1,0", "/", ",", " "}},
		{"rates", 7, []string{",", "/", "12"}},
		{"rates", 5, []string{"12,", ",12", "24", "/", "6"}},
		{"best", 5, []string{",", "/", " ", "0", "2"}},
		{"first", 6, []string{",", "/", "3", "00"}},
		{"low", 7, []string{",", "/", "1"}},
		{"high", 5, []string{",", "/", "1", "20"}},
		{"pays", 5, []string{",", "/", "5", "02", "-"}},
	} {
		all, answered := 0, 0
		for _, rest := range textsOver(c.most, c.parts...) {
			all++
			if !strings.HasPrefix(wantTold(t, c.word+" "+rest+"\nshow\n"), "no\n") {
				answered++
			}
		}
		wantBoth(t, c.word+" is answered", answered, all)
	}
}

// TestEveryShortScript holds all scripts of few parts against the own reading.
func TestEveryShortScript(t *testing.T) {
	for _, c := range []struct {
		most  int
		parts []string
	}{
		{5, []string{"\n", " ", "show", "trade", "x"}},
		{6, []string{"\n", "\nshow\n", "swap ", "0 1", " "}},
		{4, []string{"\n", "wishes ", "0,1", "/", "1,0", "show\n", "trade\n"}},
		{4, []string{"turn", "s", "firm", "good", "\n", " ", "as", "all"}},
	} {
		for _, script := range textsOver(c.most, c.parts...) {
			wantTold(t, script)
		}
	}
}

// TestSpoiledLines has each line of startLines with one byte changed, taken out, put in, or exchanged with the one behind it.
func TestSpoiledLines(t *testing.T) {
	answers := map[string]int{}
	all := 0
	for _, c := range startLines {
		line := strings.TrimSuffix(c.word+" "+c.rest, " ")
		for _, other := range spoiledTexts(line) {
			all++
			first, _, _ := strings.Cut(wantTold(t, other+"\nshow\nturns\n"), "\n")
			answers[first]++
		}
	}
	for _, answer := range []string{"ok", "no", "what"} {
		wantBoth(t, "a spoiled line is answered by "+answer, answers[answer], all)
	}
}

// TestSpoiledScripts has whole scripts spoiled in one byte, so that lines are joined and split, too.
func TestSpoiledScripts(t *testing.T) {
	for _, script := range []string{"trade\nshow\n", "wishes 0,1/1,0\nswap 0 1\nshow\n", "term [ab]\nas\ngive 2 1 0\nas\n", "zzz\nwishes x\nrates 12,24/7,12\n"} {
		for _, other := range spoiledTexts(script) {
			wantTold(t, other)
		}
	}
}

// TestScriptsOfAnyBytes also has any panic fail.
func TestScriptsOfAnyBytes(t *testing.T) {
	const signs = "\n\n 0123,/[]()-.abcgivetakwshmrlopdn"
	d := dice(722)
	for range 3000 {
		bytes := make([]byte, d.below(mostScriptBytes+20))
		for i := range bytes {
			bytes[i] = byte(d.below(256))
		}
		wantTold(t, string(bytes))
		for i := range bytes {
			bytes[i] = signs[d.below(len(signs))]
		}
		wantTold(t, string(bytes))
	}
	words := slices.Concat(restless(), []string{"wishes", "give", "take", "swap", "term", "rates", "best", "first", "low", "high", "pays", "wants", "circles", "odds", "stakes", "tidy"})
	for range 3000 {
		script := ""
		for range d.below(60) {
			script += words[d.below(len(words))] + []string{"\n", " ", " 0 1", "0", ",", "/", "\x00", " 0,1/1,0\n", " i\n"}[d.below(9)]
		}
		wantTold(t, script)
	}
}

// TestTheScriptStays has a script of which the bytes are looked at behind the call.
func TestTheScriptStays(t *testing.T) {
	for _, script := range completeScripts(20, 0) {
		before := string([]byte(script))
		output := impl.Execute(script)
		kept := string([]byte(output))
		impl.Execute(before + before)
		if script != before || output != kept {
			t.Errorf("the script %q has become %q, its output %q has become %q", before, script, kept, output)
		}
	}
}
