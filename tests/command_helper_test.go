package tests

import (
	"fmt"
	"regexp"
	"slices"
	"strconv"
	"strings"
	"testing"

	"loop.example/tradecircles/impl"
)

const mostScriptBytes = 600

// restKind is what is told as the rest of a line.
type restKind int

const (
	restNone restKind = iota
	restNumbers
	restRows
	restText
)

// scriptWords has the words that the document tells.
var scriptWords = map[string]restKind{
	"wishes": restRows, "give": restNumbers, "trade": restNone, "take": restNumbers, "swap": restNumbers, "term": restText,
	"show": restNone, "turns": restNone, "firms": restNone, "all": restNone, "ends": restNone, "long": restNone, "goods": restNone, "order": restNone, "many": restNone, "happy": restNone, "as": restNone,
	"firm": restNone, "still": restNone, "good": restNone,
	"block": restNone, "turn": restNone,
	"rates": restRows, "best": restRows, "first": restRows, "low": restRows, "high": restRows, "pays": restRows,
	"wants": restNumbers, "circles": restNumbers, "odds": restNumbers, "stakes": restNumbers,
	"tidy": restText,
}

// How lines, numbers and rows are written.
var (
	lineForm    = regexp.MustCompile(`^([^ ]*)( ?)((?s:.*))$`)
	digitsForm  = regexp.MustCompile(`[0-9]+`)
	numbersForm = regexp.MustCompile(`^[0-9]{1,3}(?: [0-9]{1,3})*$`)
	rowsForm    = regexp.MustCompile(`^[0-9]{1,3}(?:,[0-9]{1,3})*(?:/[0-9]{1,3}(?:,[0-9]{1,3})*)*$`)
)

func numbersIn(text string) []int {
	var numbers []int
	for _, digits := range digitsForm.FindAllString(text, -1) {
		x, err := strconv.Atoi(digits)
		if err != nil {
			panic(err)
		}
		numbers = append(numbers, x)
	}
	return numbers
}

// printedNumbers and the functions behind it are how the document tells that answers are printed.
func printedNumbers(list []int, between string) string {
	if len(list) == 0 {
		return "."
	}
	return strings.ReplaceAll(strings.Trim(fmt.Sprint(list), "[]"), " ", between)
}

func printedLists(lists [][]int) string {
	text := ""
	for _, list := range lists {
		text += printedNumbers(list, ",") + " "
	}
	if text == "" {
		return "."
	}
	return strings.TrimSuffix(text, " ")
}

// printed takes what a function returns together with whether it succeeded.
func printed(value any, ok bool) string {
	switch x := value.(type) {
	case []int:
		value = printedNumbers(x, " ")
	case [][]int:
		value = printedLists(x)
	}
	if !ok {
		value = "no"
	}
	return fmt.Sprint(value)
}

func printedHolds(holds bool) string {
	return map[bool]string{true: "yes", false: "not"}[holds]
}

// scriptState is what lines have made so far.
type scriptState struct {
	w [][]int
	g []int
}

// become has a giving only if ok holds.
func (s *scriptState) become(g []int, ok bool) string {
	if !ok {
		return "no"
	}
	s.g = g
	return "ok"
}

func (s *scriptState) byNoRest(word string) string {
	switch word {
	case "trade":
		return s.become(impl.HouseTrade(s.w))
	case "show":
		return printed(s.g, true)
	case "turns":
		return printed(impl.HouseTurns(s.w))
	case "firms":
		return printed(impl.HouseFirms(s.w))
	case "all":
		return printed(impl.SwapAll(s.w, s.g))
	case "ends":
		return printed(impl.SwapEnds(s.w))
	case "long":
		return printed(impl.SwapLong(s.w))
	case "goods":
		return printed(impl.TurnGoods(s.w))
	case "order":
		return printed(impl.TurnOrder(s.w, s.g))
	case "many":
		return printed(impl.TurnMany(s.w, s.g))
	case "happy":
		return printed(impl.TurnHappy(s.w, s.g))
	case "as":
		return printed(impl.TermOf(s.g))
	case "firm":
		return printedHolds(impl.HouseFirm(s.w, s.g))
	case "still":
		return printedHolds(impl.SwapStill(s.w, s.g))
	case "good":
		return printedHolds(impl.TurnGood(s.w, s.g))
	case "block":
		return printed(impl.ProofBlock(s.w, s.g))
	case "turn":
		return printed(impl.ProofTurn(s.w, s.g))
	}
	panic(word)
}

func (s *scriptState) byNumbers(word string, numbers []int) string {
	switch word {
	case "give":
		return s.become(numbers, impl.HouseGiving(len(s.w), numbers))
	case "take":
		return s.become(impl.TurnTake(s.w, numbers))
	case "swap":
		if len(numbers) == 2 {
			return s.become(impl.SwapDo(s.w, s.g, numbers[0], numbers[1]))
		}
		return "no"
	case "wants":
		return printed(impl.WantTry(numbers))
	case "circles":
		return printed(impl.WantCircles(numbers, len(numbers)))
	case "odds":
		upper, lower, ok := impl.OddsSum(numbers)
		return printed([]int{upper, lower}, ok)
	case "stakes":
		return printed(impl.OddsStakes(numbers))
	}
	panic(word)
}

func (s *scriptState) byRows(word string, rows [][]int) string {
	switch word {
	case "wishes":
		if !impl.HouseIn(rows) {
			return "no"
		}
		s.w, s.g = rows, countUp(len(rows))
		return "ok"
	case "rates":
		return printed(impl.ProofRate(rows))
	case "best":
		return printed(impl.BidBest(rows))
	case "first":
		return printed(impl.BidFirst(rows))
	case "low":
		return printed(impl.FairLow(rows))
	case "high":
		return printed(impl.FairHigh(rows))
	case "pays":
		return printed(impl.FairPays(rows))
	}
	panic(word)
}

func (s *scriptState) byText(word string, text string) string {
	if word == "term" {
		return s.become(impl.TermGives(len(s.w), text))
	}
	return printed(impl.TermTidy(len(s.w), text))
}

// byLine is the own reading of a line.
func (s *scriptState) byLine(line string) string {
	parts := lineForm.FindStringSubmatch(line)
	word, spaced, rest := parts[1], parts[2] == " ", parts[3]
	kind, known := scriptWords[word]
	switch {
	case !known || spaced == (kind == restNone):
		return "what"
	case kind == restNone:
		return s.byNoRest(word)
	case kind == restText:
		return s.byText(word, rest)
	case kind == restNumbers && numbersForm.MatchString(rest):
		return s.byNumbers(word, numbersIn(rest))
	case kind == restRows && rowsForm.MatchString(rest):
		var rows [][]int
		for _, row := range strings.Split(rest, "/") {
			rows = append(rows, numbersIn(row))
		}
		return s.byRows(word, rows)
	}
	return "no"
}

// scriptByTelling is the own reading of a script.
func scriptByTelling(script string) string {
	if len(script) > mostScriptBytes {
		return "too long\n"
	}
	s := scriptState{copyRows(threeSwap), countUp(3)}
	output := ""
	for _, line := range strings.SplitAfter(script, "\n") {
		if complete, ended := strings.CutSuffix(line, "\n"); ended {
			output += s.byLine(complete) + "\n"
		}
	}
	return output + fmt.Sprintf("people %d\n", len(s.w))
}

// wantScript has the output of a script be as told, and as the own reading has it.
func wantScript(t *testing.T, script string, want string) {
	t.Helper()
	if got := impl.Execute(script); got != want {
		t.Errorf("Execute(%q) = %q, want %q", script, got, want)
	}
	if got := scriptByTelling(script); got != want {
		t.Errorf("the own reading of %q is %q, not %q", script, got, want)
	}
}

// wantTold has the output of a script be as the own reading has it, and returns it.
func wantTold(t *testing.T, script string) string {
	t.Helper()
	want := scriptByTelling(script)
	if got := impl.Execute(script); got != want {
		t.Errorf("Execute(%q) = %q, want %q", script, got, want)
	}
	return want
}

// wantLines has each line of a script answered as told, behind each other; the last answer is for what is behind all lines.
func wantLines(t *testing.T, lines []string, answers ...string) {
	t.Helper()
	wantScript(t, strings.Join(lines, "\n")+"\n", strings.Join(answers, "\n")+"\n")
}

// wantLine has one line answered as told, by which no wishes of another number of people come.
func wantLine(t *testing.T, line string, want string) {
	t.Helper()
	wantLines(t, []string{line}, want, "people 3")
}

// wantChangeless has a line answered as told, and everything else behind it as ahead of it, for wishes and a giving.
func wantChangeless(t *testing.T, w [][]int, g []int, line string, want string) {
	t.Helper()
	show, turns, goods := printed(g, true), printed(impl.HouseTurns(w)), printed(impl.TurnGoods(w))
	wantLines(t, []string{wishesLine(w), numbersLine("give", g), "show", "turns", "goods", line, "show", "turns", "goods"}, "ok", "ok", show, turns, goods, want, show, turns, goods, fmt.Sprintf("people %d", len(w)))
}

func rowsText(rows [][]int) string {
	return strings.ReplaceAll(printedLists(rows), " ", "/")
}

func rowsLine(word string, rows [][]int) string {
	return word + " " + rowsText(rows)
}

func numbersLine(word string, numbers []int) string {
	return word + " " + printedNumbers(numbers, " ")
}

func wishesLine(w [][]int) string {
	return rowsLine("wishes", w)
}

// linesOf returns the output of a script line by line.
func linesOf(script string) []string {
	return strings.Split(strings.TrimSuffix(impl.Execute(script), "\n"), "\n")
}

// restless are the words without a rest, in a fixed order.
func restless() []string {
	var words []string
	for word, kind := range scriptWords {
		if kind == restNone {
			words = append(words, word)
		}
	}
	slices.Sort(words)
	return words
}

// otherNumberTexts has writings by which no number is meant, or one of too many digits.
var otherNumberTexts = []string{"", "0000", "0001", "1000", "00012", "99999999999999999999", "-1", "+1", "-0", "--1", "1-", "1.0", ".", "1.", "0x1", "1e1", "1_0", "x", "a", "i", "1a", "a1", "\x00", "1\x00", "\xff", "１", "²", "٣", "\t1", "1\t", "1\r", "\n1", "1\v", "1\u00a0", "1'", "\"1\"", "{1}", "[1]", "(1)", "1;2", "1:2", "1|2", "1&2", "1=2", "1*2", "1\\2"}

// miswrittenNumbers returns rests that fail where numbers are told: those of a list with other signs between, in front and behind, and with one number written otherwise.
func miswrittenNumbers(list []int) []string {
	text := printedNumbers(list, " ")
	all := []string{"", " ", "  ", ",", "/", ".", text + " ", " " + text, text + "  ", " " + text + " ", text + ",", text + "/", "," + text, "/" + text, text + ".", text + "\r", text + "\t", "\t" + text, text + " .", text + " x", "x " + text}
	for _, between := range []string{"  ", "   ", ",", "/", ", ", " ,", ";", ".", "\t", " \t", "\r", "\v", "\u00a0", "\x00", "-", "_", "+"} {
		if len(list) > 1 {
			all = append(all, printedNumbers(list, between), printedNumbers(list[:1], "")+between+printedNumbers(list[1:], " "))
		}
	}
	for at := range list {
		for _, other := range otherNumberTexts {
			parts := strings.Split(text, " ")
			parts[at] = other
			all = append(all, strings.Join(parts, " "))
		}
	}
	// A line ends at a newline, so that what is behind it is another line.
	return slices.DeleteFunc(all, func(rest string) bool { return strings.Contains(rest, "\n") })
}

// miswrittenRows is for rows, as miswrittenNumbers is for numbers.
func miswrittenRows(rows [][]int) []string {
	text := rowsText(rows)
	all := []string{"", " ", ",", "/", "//", ",,", ",/,", ".", text + " ", " " + text, text + ",", "," + text, text + "/", "/" + text, text + "//", "//" + text, text + ".", text + "\r", "\t" + text, text + "/.", text + "/x", text + "/ ", text + " 1"}
	for at := range text {
		sign := text[at : at+1]
		if sign != "," && sign != "/" {
			continue
		}
		for _, other := range []string{sign + sign, " ", sign + " ", " " + sign, ",/", "/,", ";", ".", "\\", "|", "\t", "\r", "\x00", "-", "_", "+", ",,", "//"} {
			all = append(all, text[:at]+other+text[at+1:])
		}
	}
	for i := range rows {
		for k := range rows[i] {
			for _, other := range otherNumberTexts {
				lines := strings.Split(text, "/")
				row := strings.Split(lines[i], ",")
				row[k] = other
				lines[i] = strings.Join(row, ",")
				all = append(all, strings.Join(lines, "/"))
			}
		}
	}
	return slices.DeleteFunc(all, func(rest string) bool { return strings.Contains(rest, "\n") })
}

// withZeros writes each number of a text with zeros in front, up to as many digits as told.
func withZeros(text string, digits int) string {
	return digitsForm.ReplaceAllStringFunc(text, func(number string) string {
		return strings.Repeat("0", max(digits-len(number), 0)) + number
	})
}

// randomLine returns a line of any word, for as many people as told.
func randomLine(d *dice, n int) string {
	few, bidders, items := 2+d.below(5), 1+d.below(impl.BidMax), 1+d.below(impl.BidMax)
	bids := [][][]int{randomBids(d, bidders, items, mostWorth), randomBids(d, bidders, items, 3)}[d.below(2)]
	numbers := [][]int{randomWants(d, few, 2), randomOdds(d, few, 1, mostOddsNumber), randomOrder(d, n)}
	words := restless()
	switch d.below(12) {
	case 0:
		return wishesLine(randomWishes(d, 2+d.below(4)))
	case 1:
		return numbersLine("give", randomOrder(d, n))
	case 2:
		return numbersLine("take", randomOrder(d, n))
	case 3:
		return numbersLine("swap", []int{d.below(n), d.below(n)})
	case 4:
		return "term " + randomTerm(d, n, 1)
	case 5:
		return "tidy " + randomTerm(d, n, 2)
	case 6:
		return rowsLine("rates", randomTable(d, 2+d.below(3)))
	case 7:
		return rowsLine([]string{"best", "first", "low", "high", "pays"}[d.below(5)], bids)
	case 8:
		return numbersLine([]string{"wants", "circles", "odds", "stakes", "give", "take", "swap"}[d.below(7)], numbers[d.below(3)])
	}
	return words[d.below(len(words))]
}

// randomScript returns complete lines, some of them spoiled if told, of as many bytes as told at most.
func randomScript(d *dice, bytes int, spoiling bool) string {
	n := 3
	script := ""
	for {
		if d.below(6) == 0 {
			n = 2 + d.below(4)
		}
		line := randomLine(d, n)
		if spoiling && d.below(4) == 0 {
			spoiled := spoiledTexts(line)
			line = spoiled[d.below(len(spoiled))]
		}
		if len(script)+len(line)+1 > bytes {
			return script
		}
		script += line + "\n"
	}
}

// completeScripts has scripts of complete lines with room for a number of bytes: no line, few ones, and as many as there is room for.
func completeScripts(count int, room int) []string {
	d := dice(700 + room)
	most := mostScriptBytes - room
	all := []string{"", "\n", "show\n", "\n\n", "zzz\n", "wishes 0,1/1,0\n", "wishes x\n", strings.Repeat("\n", most), strings.Repeat("\n", most-1), strings.Repeat("trade\n", most/6), strings.Repeat("x", most-1) + "\n"}
	for range count {
		all = append(all, randomScript(&d, most, true), randomScript(&d, most, false), randomScript(&d, d.below(most+1), true))
	}
	return all
}
