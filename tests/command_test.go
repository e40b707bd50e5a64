package tests

import (
	"slices"
	"strings"
	"sync"
	"testing"

	"loop.example/tradecircles/impl"
)

func TestCommandConstants(t *testing.T) {
	if impl.MaxScript != 600 {
		t.Errorf("MaxScript = %d", impl.MaxScript)
	}
}

func TestScriptEnds(t *testing.T) {
	for _, c := range []struct{ script, want string }{
		{"", "people 3\n"},
		{"\n", "what\npeople 3\n"},
		{"\n\n\n", "what\nwhat\nwhat\npeople 3\n"},
		// What is behind the last newline is no line, be it one that would change something, fail or be another one.
		{"show", "people 3\n"},
		{"zzz", "people 3\n"},
		{" ", "people 3\n"},
		{"wishes 0,1/1,0", "people 3\n"},
		{"wishes x", "people 3\n"},
		{"show\nshow", "0 1 2\npeople 3\n"},
		{"show\nturns\nzzz", "0 1 2\n2\npeople 3\n"},
		{"trade\nshow\nwishes 0,1/1,0", "ok\n1 0 2\npeople 3\n"},
		{"wishes 0,1/1,0\nwishes 0,1,2/1,0,2/2,0,1", "ok\npeople 2\n"},
		{"\nshow", "what\npeople 3\n"},
		{"\n ", "what\npeople 3\n"},
		// Empty lines ahead, between and behind.
		{"\nshow\n", "what\n0 1 2\npeople 3\n"},
		{"show\n\nshow\n", "0 1 2\nwhat\n0 1 2\npeople 3\n"},
		{"show\n\n", "0 1 2\nwhat\npeople 3\n"},
		{"show\nshow\n", "0 1 2\n0 1 2\npeople 3\n"},
		{"wishes 0,1/1,0\n", "ok\npeople 2\n"},
		{"wishes 0,1/1,0\nwishes 0,1,2,3/1,0,2,3/2,0,1,3/3,0,1,2\nshow\n", "ok\nok\n0 1 2 3\npeople 4\n"},
	} {
		wantScript(t, c.script, c.want)
	}
}

// TestScriptOfReadme has the script that README.md shows.
func TestScriptOfReadme(t *testing.T) {
	wantScript(t, "wishes 2,0,1/0,1,2/1,2,0\ntrade\nshow\nas\nfirm\nswap 0 0\nshow \nlow 10,6/8,1/3,5\n", "ok\nok\n2 0 1\n[acb]\nyes\nno\nwhat\n8 4\npeople 3\n")
}

func TestScriptLengths(t *testing.T) {
	const last = "people 3\n"
	full := strings.Repeat("show\n", mostScriptBytes/5)
	for _, c := range []struct{ script, want string }{
		{full, strings.Repeat("0 1 2\n", mostScriptBytes/5) + last},
		{full[1:], "what\n" + strings.Repeat("0 1 2\n", mostScriptBytes/5-1) + last},
		{full[:mostScriptBytes-1], strings.Repeat("0 1 2\n", mostScriptBytes/5-1) + last},
		{full + "\n", "too long\n"},
		{full + "x", "too long\n"},
		{"\n" + full, "too long\n"},
		{full + full, "too long\n"},
		{strings.Repeat("\n", mostScriptBytes), strings.Repeat("what\n", mostScriptBytes) + last},
		{strings.Repeat("\n", mostScriptBytes+1), "too long\n"},
		{strings.Repeat("x", mostScriptBytes), last},
		{strings.Repeat("x", mostScriptBytes+1), "too long\n"},
		{strings.Repeat("x", mostScriptBytes-1) + "\n", "what\n" + last},
		{strings.Repeat("x", mostScriptBytes) + "\n", "too long\n"},
		// What is behind the last newline counts too, though it is ignored.
		{"trade\nshow\n" + strings.Repeat("x", mostScriptBytes-11), "ok\n1 0 2\n" + last},
		{"trade\nshow\n" + strings.Repeat("x", mostScriptBytes-10), "too long\n"},
		// The length is one in bytes, of which these signs have two and three.
		{strings.Repeat("é", mostScriptBytes/2), last},
		{strings.Repeat("é", mostScriptBytes/2+1), "too long\n"},
		{strings.Repeat("中", mostScriptBytes/3-2) + "show\n", "what\n" + last},
		{strings.Repeat("中", mostScriptBytes/3-1) + "x\n\n", "what\nwhat\n" + last},
		{strings.Repeat("中", mostScriptBytes/3) + "\n", "too long\n"},
		{strings.Repeat("\x00", mostScriptBytes-1) + "\n", "what\n" + last},
		{strings.Repeat("\xff", mostScriptBytes) + "\n", "too long\n"},
		// One line that is as long as a script.
		{"tidy " + strings.Repeat("-", mostScriptBytes-7) + "i\n", "no\n" + last},
		{"tidy " + strings.Repeat("(", mostScriptBytes-6) + "\n", "no\n" + last},
		{"give" + strings.Repeat(" ", mostScriptBytes-5) + "\n", "no\n" + last},
		{"give " + strings.Repeat("0 ", mostScriptBytes/2-3) + "\n", "no\n" + last},
		{"give " + strings.Repeat("0 ", mostScriptBytes/2-3) + "0", last},
		{"best " + strings.Repeat("0/", mostScriptBytes/2-4) + "0\n", "no\n" + last},
		{"best " + strings.Repeat("0,", mostScriptBytes/2-4) + "0\n", "no\n" + last},
		{"show" + strings.Repeat(" ", mostScriptBytes-5) + "\n", "what\n" + last},
	} {
		wantScript(t, c.script, c.want)
	}
	for _, bytes := range []int{601, 602, 700, 1200, 1 << 16, 1<<16 + 600, 1 << 20, 1 << 24} {
		for _, part := range []string{"\n", "x", " ", "show\n", "wishes 0,1/1,0\n", "\x00"} {
			wantScript(t, strings.Repeat(part, bytes/len(part)+1)[:bytes], "too long\n")
		}
	}
}

// startLines has for each word a line as told, and its answer at the beginning.
var startLines = []struct{ word, rest, want string }{
	{"wishes", "2,1,0/0,1,2/0,2,1", "ok"},
	{"give", "2 0 1", "ok"},
	{"trade", "", "ok"},
	{"take", "2 0 1", "ok"},
	{"swap", "0 2", "ok"},
	{"term", "([ab].[bc])", "ok"},
	{"show", "", "0 1 2"},
	{"turns", "", "2"},
	{"firms", "", "1,0,2"},
	{"all", "", "0,1"},
	{"ends", "", "1,0,2"},
	{"long", "", "1"},
	{"goods", "", "1,0,2 1,2,0 2,1,0"},
	{"order", "", "no"},
	{"many", "", "0"},
	{"happy", "", "0"},
	{"as", "", "i"},
	{"firm", "", "not"},
	{"still", "", "not"},
	{"good", "", "not"},
	{"block", "", "block 1 0 2"},
	{"turn", "", "no"},
	{"rates", "12,24/7,12", "gains 0 1"},
	{"best", "5,4/4,3", "8"},
	{"first", "5,4/4,3", "0 1"},
	{"low", "5,4/4,3", "1 0"},
	{"high", "5,4/4,3", "4 3"},
	{"pays", "5,4/4,3", "1 0"},
	{"wants", "2 4 1", "3"},
	{"circles", "2 5 3", "0,1 0,1,2 1,2"},
	{"odds", "3 4", "7 12"},
	{"stakes", "3 4", "4 3"},
	{"tidy", "2[abc]", "[acb]"},
}

func TestStartLines(t *testing.T) {
	for _, c := range startLines {
		line := c.word
		if scriptWords[c.word] != restNone {
			line += " " + c.rest
		}
		wantLine(t, line, c.want)
		// The same line ahead of others, behind others, and behind one that is ignored.
		wantLines(t, []string{"zzz", line, "zzz"}, "what", c.want, "what", "people 3")
		wantScript(t, "show\n"+line, "0 1 2\npeople 3\n")
	}
	if len(startLines) != len(scriptWords) {
		t.Errorf("%d of %d words", len(startLines), len(scriptWords))
	}
}

func TestWordsAndRests(t *testing.T) {
	for _, c := range startLines {
		if scriptWords[c.word] == restNone {
			for _, rest := range []string{" ", "  ", " x", " 0", " 0 1 2", " 0,1/1,0", " [ab]", " i", " " + c.word, " \x00"} {
				wantLine(t, c.word+rest, "what")
			}
			continue
		}
		wantLine(t, c.word, "what")
		for _, rest := range []string{"", " ", "  ", " " + c.rest, c.rest + " ", "  " + c.rest, c.rest + " x", "x", "show", "\x00", "\xff", ".", "-", "ok"} {
			wantLine(t, c.word+" "+rest, "no")
		}
	}
}

// miswrittenWords has words that differ from one in a letter, or by signs in front or behind.
func miswrittenWords(word string) []string {
	all := []string{strings.ToUpper(word), strings.ToUpper(word[:1]) + word[1:], word + word, word + ".", word + ":", word + ",", word + "0", word + "\t", word + "\r", word + "\x00", word + "\xff", word + "\u00a0", "\t" + word, "\x00" + word, "\ufeff" + word, "\"" + word + "\"", "-" + word, "/" + word, "." + word}
	for at := range len(word) + 1 {
		for _, letter := range []string{"a", "e", "s", "x", "A", "_"} {
			all = append(all, word[:at]+letter+word[at:])
			if at < len(word) {
				all = append(all, word[:at]+letter+word[at+1:])
			}
		}
		if at < len(word) {
			all = append(all, word[:at]+word[at+1:], word[:at]+strings.ToUpper(word[at:at+1])+word[at+1:], word[:at]+" "+word[at:])
		}
		if at+1 < len(word) {
			all = append(all, word[:at]+word[at+1:at+2]+word[at:at+1]+word[at+2:])
		}
	}
	// Some become other words, or the same again.
	return slices.DeleteFunc(all, func(other string) bool {
		ahead, _, _ := strings.Cut(other, " ")
		_, known := scriptWords[ahead]
		return known
	})
}

func TestOtherWords(t *testing.T) {
	for _, c := range startLines {
		for _, word := range miswrittenWords(c.word) {
			wantLine(t, word, "what")
			wantLine(t, word+" ", "what")
			wantLine(t, word+" "+c.rest, "what")
		}
		wantLine(t, " "+c.word, "what")
		wantLine(t, "  "+c.word, "what")
		wantLine(t, " "+c.word+" "+c.rest, "what")
		if scriptWords[c.word] != restNone {
			wantLine(t, c.word+"\t"+c.rest, "what")
			wantLine(t, c.word+c.rest, "what")
			wantLine(t, c.word+","+c.rest, "what")
		}
	}
	for _, line := range []string{"", " ", "  ", "x", "zzz", "zzz x", "ok", "no", "what", "people", "people 3", "yes", "not", "0", "0 1 2", "0,1/1,0", "[ab]", "i", ".", "\r", "\t", "\x00", "\xff", "#", "# show", "-- show", "too long", "exit", "help", "gains 0 1", "block 1 0 2", "show;", "show;show", "trade show", "shows", "give0 1 2", "wishes0,1/1,0"} {
		wantLine(t, line, "what")
	}
}

// TestLinesOfOneByte has all bytes as a line, behind a word, and in front of it.
func TestLinesOfOneByte(t *testing.T) {
	for b := range 256 {
		sign := string([]byte{byte(b)})
		if sign == "\n" {
			continue
		}
		wantLine(t, sign, "what")
		wantLine(t, "show"+sign, "what")
		wantLine(t, sign+"show", "what")
		wantTold(t, "give"+sign+"2 0 1\nshow\n")
		wantTold(t, "give 2"+sign+"0 1\nshow\n")
		wantTold(t, "give 2 0 1"+sign+"\nshow\n")
		wantTold(t, "wishes 0,1"+sign+"1,0\nshow\n")
		wantTold(t, "wishes 0,1/1"+sign+"0\nshow\n")
		wantTold(t, "term "+sign+"\nshow\n")
		wantTold(t, "tidy "+sign+"i\n")
	}
}

func TestNumberLines(t *testing.T) {
	for _, c := range []struct{ line, want string }{
		// Zeros in front, up to three digits.
		{"give 0 1 2", "ok"}, {"give 00 1 2", "ok"}, {"give 000 01 002", "ok"}, {"give 0000 1 2", "no"}, {"give 0 1 0002", "no"},
		{"take 02 00 001", "ok"}, {"swap 00 001", "ok"}, {"swap 0 0001", "no"},
		{"odds 03 004", "7 12"}, {"odds 003 0004", "no"}, {"odds 020 20", "1 10"}, {"stakes 003 04", "4 3"},
		{"wants 002 004 001", "3"}, {"wants 00 000", "0"}, {"circles 000 000", "."}, {"circles 02 01", "0,1"},
		{"odds 0007 2", "no"}, {"odds 007 2", "9 14"},
		// Three and four digits that are no mere zeros.
		{"odds 999 2", "no"}, {"odds 100 2", "no"}, {"odds 1000 2", "no"}, {"wants 999 0", "no"}, {"wants 1002 1", "no"}, {"give 100 1 2", "no"}, {"swap 0 999", "no"},
		// Signs in front.
		{"odds +3 4", "no"}, {"odds 3 +4", "no"}, {"odds -3 4", "no"}, {"give -0 1 2", "no"}, {"give 0 1 +2", "no"}, {"swap -1 0", "no"}, {"wants -0 -0", "no"},
		// Other signs between, spaces that are too many, and one behind or in front.
		{"odds 3,4", "no"}, {"odds 3/4", "no"}, {"odds 3;4", "no"}, {"odds 3.4", "no"}, {"odds 3\t4", "no"}, {"odds 3  4", "no"}, {"odds 3 4 ", "no"}, {"odds  3 4", "no"}, {"odds 3, 4", "no"}, {"odds 3 ,4", "no"},
		{"give 0,1,2", "no"}, {"give 0 1,2", "no"}, {"give 0/1/2", "no"}, {"give 012", "no"}, {"give 0 12", "no"}, {"give 0  1 2", "no"}, {"give 0 1 2 ", "no"}, {"give  0 1 2", "no"},
		{"swap 0,1", "no"}, {"swap 01", "no"}, {"swap 0  1", "no"}, {"swap 0 1 ", "no"}, {"take 0,1,2", "no"}, {"take 0 1 2 ", "no"}, {"circles 2,1", "no"}, {"circles 2 1 ", "no"},
		// Other digits, and letters.
		{"odds 0x3 4", "no"}, {"odds 3 1e1", "no"}, {"odds 1_0 4", "no"}, {"odds ３ 4", "no"}, {"odds 3 ٤", "no"}, {"odds three 4", "no"}, {"give a b c", "no"},
	} {
		wantLine(t, c.line, c.want)
	}
}

func TestNumbersOfLines(t *testing.T) {
	for _, c := range []struct{ line, want string }{
		// More or fewer numbers than told, or than there are people.
		{"swap 0", "no"}, {"swap 1", "no"}, {"swap 0 1", "ok"}, {"swap 1 0", "ok"}, {"swap 0 1 2", "no"}, {"swap 0 1 0", "no"}, {"swap 0 1 0 1", "no"},
		{"give 0", "no"}, {"give 0 1", "no"}, {"give 1 0", "no"}, {"give 0 1 2 3", "no"}, {"give 0 1 2 0", "no"}, {"give 0 1 2 3 4", "no"}, {"give 0 1 2 3 4 5", "no"},
		{"take 0", "no"}, {"take 0 1", "no"}, {"take 0 1 2", "ok"}, {"take 0 1 2 3", "no"}, {"take 2 1 0 2", "no"}, {"take 0 1 2 3 4", "no"},
		{"wants 0", "no"}, {"wants 0 0", "0"}, {"wants 62 61 59 55 47 31", "6"}, {"wants 0 0 0 0 0 0 0", "no"}, {"wants 2 1 0 0 0 0 0", "no"},
		{"circles 0", "no"}, {"circles 0 0 0 0 0 0", "."}, {"circles 2 4 8 16 32 1", "0,1,2,3,4,5"}, {"circles 2 1 0 0 0 0 0", "no"},
		{"odds 5", "no"}, {"odds 1 1", "2 1"}, {"odds 20 20 20 20 20 20", "3 10"}, {"odds 20 20 20 20 20 20 20", "no"},
		{"stakes 5", "no"}, {"stakes 1 20", "20 1"}, {"stakes 2 2 2 2 2 2", "1 1 1 1 1 1"}, {"stakes 2 2 2 2 2 2 2", "no"},
		// Numbers that are none of the people, twice, or beyond other limits.
		{"swap 0 0", "no"}, {"swap 2 2", "no"}, {"swap 0 3", "no"}, {"swap 3 0", "no"}, {"give 0 0 1", "no"}, {"give 1 2 3", "no"}, {"take 0 0 1", "no"}, {"take 0 1 3", "no"},
		{"wants 1 1", "no"}, {"wants 2 2", "no"}, {"wants 4 1", "no"}, {"circles 1 0", "no"}, {"circles 2 4", "no"}, {"odds 0 2", "no"}, {"odds 2 21", "no"}, {"stakes 0 2", "no"}, {"stakes 21 2", "no"},
	} {
		wantLine(t, c.line, c.want)
	}
}

func TestRowLines(t *testing.T) {
	for _, c := range []struct{ line, want string }{
		// One number, one row of several, several rows of one, and several of several.
		{"best 5", "5"}, {"best 1,3,2", "3"}, {"best 1/3/2", "3"}, {"best 1,2/3,4", "5"}, {"first 5", "0"}, {"first 1,3,2", "1"}, {"first 1/3/2", "-1 0 -1"}, {"first 0", "-1"}, {"first 0,0/0,0", "-1 -1"},
		{"low 5", "0"}, {"high 5", "5"}, {"pays 5", "0"}, {"low 1/3/2", "2"}, {"high 1/3/2", "3"}, {"pays 1/3/2", "0 2 0"}, {"low 1,3,2", "0 0 0"}, {"high 1,3,2", "0 1 0"}, {"pays 1,3,2", "0"},
		{"rates 12", "no"}, {"wishes 0", "no"}, {"rates 12,12", "no"}, {"rates 12/12", "no"},
		// Zeros in front, up to three digits.
		{"best 005", "5"}, {"best 00", "0"}, {"best 000,001/01,0", "2"}, {"best 0005", "no"}, {"best 0000", "no"}, {"best 020", "20"}, {"best 0020", "no"}, {"wishes 000,01,2/00,001,002/0,1,2", "ok"}, {"wishes 0000,1,2/0,1,2/0,1,2", "no"}, {"rates 012,024/007,12", "gains 0 1"}, {"rates 12,24/0007,12", "no"},
		// Numbers of three digits, and of more.
		{"best 999", "no"}, {"best 1000", "no"}, {"rates 12,144/1,12", "holds 12 1"}, {"rates 12,144/2,12", "gains 0 1"}, {"rates 12,145/1,12", "no"}, {"rates 12,1440/1,12", "no"},
		// Signs in front.
		{"best -1", "no"}, {"best +1", "no"}, {"best 1,-1", "no"}, {"best 1/+1", "no"}, {"rates 12,+24/7,12", "no"}, {"rates 12,24/-7,12", "no"}, {"wishes -0,1,2/0,1,2/0,1,2", "no"},
		// Other signs between.
		{"best 1 2", "no"}, {"best 1;2", "no"}, {"best 1.2", "no"}, {"best 1|2", "no"}, {"best 1\\2", "no"}, {"best 1, 2", "no"}, {"best 1 ,2", "no"}, {"best 1/ 2", "no"}, {"best 1 /2", "no"}, {"rates 12 24/7 12", "no"}, {"rates 12,24 7,12", "no"}, {"wishes 0 1 2", "no"},
		// Two signs, signs in front and behind.
		{"best 1,,2", "no"}, {"best ,1", "no"}, {"best 1,", "no"}, {"best ,", "no"}, {"best 1//2", "no"}, {"best /1", "no"}, {"best 1/", "no"}, {"best /", "no"}, {"best 1,/2", "no"}, {"best 1/,2", "no"}, {"best 1,2,/3,4", "no"}, {"best 1,2/,3,4", "no"}, {"best 1,2/3,4/", "no"}, {"best /1,2/3,4", "no"}, {"best 1,2//3,4", "no"}, {"best ,1,2/3,4", "no"}, {"best 1,2/3,4,", "no"}, {"best 1 ", "no"}, {"best  1", "no"}, {"best 1/2 ", "no"},
		{"rates 12,,24/7,12", "no"}, {"rates 12,24//7,12", "no"}, {"rates /12,24/7,12", "no"}, {"rates 12,24/7,12/", "no"}, {"rates 12,24/7,12,", "no"}, {"rates 12,24/7,12 ", "no"},
		// Rows of different lengths, and too many or too few of them.
		{"best 1,2/3", "no"}, {"best 1/2,3", "no"}, {"best 1,2,3/1,2,3/1,2", "no"}, {"low 1,2/3", "no"}, {"high 1/2,3", "no"}, {"pays 1,2/3", "no"}, {"first 1,2/3", "no"}, {"rates 12,1/1", "no"}, {"rates 12,1/1,12/1,1", "no"}, {"rates 12,1,1/1,12,1", "no"}, {"wishes 0,1,2/0,1/2,1,0", "no"}, {"wishes 0,1,2/2,1,0", "no"}, {"wishes 0,1/1,0/0,1", "no"},
		{"best 1,2,3,4", "4"}, {"best 1,2,3,4,5", "no"}, {"best 1/2/3/4", "4"}, {"best 1/2/3/4/5", "no"}, {"low 1/2/3/4/5", "no"}, {"high 0,0,0,0,0", "no"}, {"wishes 0,1,2,3,4,5/0,1,2,3,4,5/0,1,2,3,4,5/0,1,2,3,4,5/0,1,2,3,4,5/0,1,2,3,4,5", "no"},
		// Numbers that are not as the functions ask.
		{"best 21", "no"}, {"first 20,21", "no"}, {"low 21", "no"}, {"high 21", "no"}, {"pays 21", "no"}, {"rates 11,1/1,12", "no"}, {"rates 12,0/1,12", "no"}, {"rates 12,145/1,12", "no"}, {"wishes 0,0,1/0,1,2/0,1,2", "no"}, {"wishes 1,2,3/1,2,3/1,2,3", "no"},
	} {
		wantLine(t, c.line, c.want)
	}
}

// TestMiswrittenRests has the rests of startLines, and longer ones, written otherwise, and behind each one the giving as it was.
func TestMiswrittenRests(t *testing.T) {
	rests := map[string][]string{"odds": {"20 3 5 7 9 11", "10 10"}, "wants": {"62 61 59 55 47 31"}, "rates": {"12,1,100/1,12,1/1,20,12"}, "best": {"0", "5,10,20,0/0,1,2,3/20,20,20,20/7,6,5,4", "1,2,3", "1/2/3"}, "wishes": {"0,1/1,0"}}
	for _, c := range startLines {
		for _, rest := range append(rests[c.word], c.rest) {
			var miswritten []string
			switch scriptWords[c.word] {
			case restNumbers:
				miswritten = miswrittenNumbers(numbersIn(rest))
			case restRows:
				var rows [][]int
				for row := range strings.SplitSeq(rest, "/") {
					rows = append(rows, numbersIn(row))
				}
				miswritten = miswrittenRows(rows)
			}
			for _, other := range miswritten {
				wantLines(t, []string{c.word + " " + other, "show", "turns"}, "no", "0 1 2", "2", "people 3")
			}
		}
	}
}

// TestZerosInFront has all numbers of lines written with one, two and three digits at least, which changes no answer, and with four, which fails.
func TestZerosInFront(t *testing.T) {
	d := dice(701)
	behind := "\nshow\nturns\n"
	zeros := 0
	for range 3000 {
		line := randomLine(&d, 3)
		word, rest, _ := strings.Cut(line, " ")
		if kind := scriptWords[word]; kind != restNumbers && kind != restRows {
			continue
		}
		zeros++
		want := wantTold(t, line+behind)
		for digits := range 4 {
			wantScript(t, word+" "+withZeros(rest, digits)+behind, want)
		}
		wantScript(t, word+" "+withZeros(rest, 4)+behind, "no\n0 1 2\n2\npeople 3\n")
	}
	if zeros < 1000 {
		t.Errorf("%d lines of numbers", zeros)
	}
}

func TestTextLines(t *testing.T) {
	two, five := "wishes 0,1/1,0", "wishes 1,0,2,3,4/0,1,2,3,4/3,2,0,1,4/2,3,0,1,4/4,0,1,2,3"
	most := strings.Repeat("-", mostTermBytes-5) + "[abc]"
	for _, c := range []struct {
		lines []string
		want  []string
	}{
		{[]string{"term i", "show"}, []string{"ok", "0 1 2", "people 3"}},
		{[]string{"term [ab]", "show"}, []string{"ok", "1 0 2", "people 3"}},
		{[]string{"term [abc]", "show"}, []string{"ok", "1 2 0", "people 3"}},
		{[]string{"term -[abc]", "show"}, []string{"ok", "2 0 1", "people 3"}},
		{[]string{"term ([ab].[bc])", "show"}, []string{"ok", "2 0 1", "people 3"}},
		{[]string{"term 5[abc]", "show"}, []string{"ok", "2 0 1", "people 3"}},
		// The giving becomes that of the term, whatever it was.
		{[]string{"term [abc]", "term [ab]", "show", "term i", "show"}, []string{"ok", "ok", "1 0 2", "ok", "0 1 2", "people 3"}},
		// An empty text, and those with spaces, which belong to it.
		{[]string{"term ", "term  ", "term  i", "term i ", "term [ab] ", "term  [ab]", "term [a b]", "term ([ab]. [bc])", "show"}, []string{"no", "no", "no", "no", "no", "no", "no", "no", "0 1 2", "people 3"}},
		{[]string{"tidy ", "tidy  ", "tidy  i", "tidy i ", "tidy [ab] ", "tidy [a b]"}, []string{"no", "no", "no", "no", "no", "no", "people 3"}},
		{[]string{"term", "tidy"}, []string{"what", "what", "people 3"}},
		// Wrong ones.
		{[]string{"term x", "term [ab", "term ab]", "term [a]", "term [aa]", "term (i)", "term ([ab].[bc]", "term 1i", "term 10[ab]", "term 0 1 2", "term show", "show"}, []string{"no", "no", "no", "no", "no", "no", "no", "no", "no", "no", "no", "0 1 2", "people 3"}},
		{[]string{"tidy x", "tidy [ab", "tidy [aa]", "tidy I", "tidy [AB]", "tidy \xff"}, []string{"no", "no", "no", "no", "no", "no", "people 3"}},
		// Terms for as many people as there are wishes, and for one more.
		{[]string{"term [bc]", "term [cd]", "show", "tidy [ca]", "tidy [ad]"}, []string{"ok", "no", "0 2 1", "[ac]", "no", "people 3"}},
		{[]string{two, "term [ab]", "show", "term [ac]", "show", "tidy [ba]", "tidy [bc]", "term i", "show"}, []string{"ok", "ok", "1 0", "no", "1 0", "[ab]", "no", "ok", "0 1", "people 2"}},
		{[]string{five, "term [ebcda]", "show", "term [abcdef]", "term [af]", "show", "tidy ([de].[cba])", "tidy [ef]"}, []string{"ok", "ok", "4 2 3 0 1", "no", "no", "4 2 3 0 1", "([acb].[de])", "no", "people 5"}},
		// It changes nothing to have a term told in its tidy form.
		{[]string{"term [ab]", "tidy [abc]", "show"}, []string{"ok", "[abc]", "1 0 2", "people 3"}},
		{[]string{"tidy i", "tidy 2[ab]", "tidy 3[ab]", "tidy -[abc]", "tidy 2[abc]", "tidy ([ab].[ab])", "tidy [cba]"}, []string{"i", "i", "[ab]", "[acb]", "[acb]", "i", "[acb]", "people 3"}},
		// Of the most bytes, and of one more.
		{[]string{"term " + most, "show", "tidy " + most}, []string{"ok", "2 0 1", "[acb]", "people 3"}},
		{[]string{"term -" + most, "show", "tidy -" + most}, []string{"no", "0 1 2", "no", "people 3"}},
	} {
		wantLines(t, c.lines, c.want...)
	}
}

// TestAsOfAllGivings has each giving of each number of people told as a term, and the term make the giving again.
func TestAsOfAllGivings(t *testing.T) {
	for n := 2; n <= impl.PeopleMax; n++ {
		wishes := wishesLine(allAlike(countUp(n)))
		people := numbersLine("people", []int{n})
		for _, g := range ordersOf[n] {
			term := tidyTerms[n][keyOf(g)]
			wantLines(t, []string{wishes, numbersLine("give", g), "as", "term i", "term " + term, "show"}, "ok", "ok", term, "ok", "ok", printedNumbers(g, " "), people)
		}
	}
}

func TestAnswersArePrinted(t *testing.T) {
	for _, c := range []struct{ line, want string }{
		// Lists of lists, and empty ones.
		{"circles 6 5 3", "0,1 0,1,2 0,2 0,2,1 1,2"}, {"circles 2 1 8 4", "0,1 2,3"}, {"circles 0 1", "."}, {"circles 2 4 0", "."}, {"circles 4 5 1", "0,2"},
		// Numbers, and those less than 0.
		{"wants 0 1", "0"}, {"best 0", "0"}, {"best 20,20/20,20", "40"}, {"best 20,20,20,20/20,20,20,20/20,20,20,20/20,20,20,20", "80"}, {"first 0/5", "-1 0"}, {"first 0,5/0,0", "1 -1"}, {"first 10,6/8,1/3,5", "0 -1 1"}, {"low 10,6/8,1/3,5", "8 4"}, {"high 10,6/8,1/3,5", "9 5"}, {"pays 10,6/8,1/3,5", "8 0 4"}, {"pays 0,0,0", "0"},
		// Both numbers of a sum.
		{"odds 2 3 6", "1 1"}, {"odds 1 1", "2 1"}, {"odds 20 20", "1 10"}, {"odds 2 3", "5 6"}, {"odds 19 17 13 11 7 3", "732790 969969"}, {"stakes 19 17 13 11 7 3", "51051 57057 74613 88179 138567 323323"},
		// Proofs.
		{"rates 12,24/6,12", "holds 2 1"}, {"rates 12,12,24/6,12,24/12,12,12", "gains 0 1 2"}, {"rates 12,144/1,12", "holds 12 1"}, {"rates 12,1,1,1,1/1,12,1,1,1/1,1,12,1,1/1,1,1,12,1/1,1,1,1,12", "holds 12 1 1 1 1"}, {"rates 12,1,1/1,12,12/1,13,12", "gains 1 2"},
	} {
		wantLine(t, c.line, c.want)
	}
	for _, c := range []struct {
		change  string
		lines   []string
		answers []string
	}{
		// Several lists, one, and none.
		{"give 0 2 1", []string{"all", "goods", "firms", "ends"}, []string{"0,2 1,2", "1,0,2 1,2,0 2,1,0", "1,0,2", "1,0,2"}},
		{"trade", []string{"all", "block", "turn", "order", "many", "happy", "firm", "still", "good"}, []string{".", "no", "turns 0 1 2", "0 1 2", "3", "2", "yes", "yes", "yes"}},
		{"take 2 0 1", []string{"show", "all", "block", "turn", "order", "many", "happy", "firm", "still", "good"}, []string{"1 2 0", ".", "block 0 1 2", "turns 0 2 1", "0 2 1", "2", "2", "not", "yes", "yes"}},
		{"give 2 0 1", []string{"show", "block", "turn", "order", "many", "happy", "firm", "still", "good", "as"}, []string{"2 0 1", "block 0 1 2", "no", "no", "0", "1", "not", "not", "not", "[acb]"}},
	} {
		wantLines(t, append([]string{c.change}, c.lines...), slices.Concat([]string{"ok"}, c.answers, []string{"people 3"})...)
	}
}

func TestChangesBehindEachOther(t *testing.T) {
	wantLines(t,
		[]string{"swap 0 1", "show", "swap 1 2", "show", "swap 2 0", "show", "swap 0 2", "show"},
		"ok", "1 0 2", "ok", "1 2 0", "ok", "0 2 1", "ok", "1 2 0", "people 3")
	wantLines(t,
		[]string{"give 2 1 0", "show", "trade", "show", "give 0 2 1", "take 1 0 2", "show", "term [ac]", "show", "swap 1 0", "show", "give 0 1 2", "show"},
		"ok", "2 1 0", "ok", "1 0 2", "ok", "ok", "1 0 2", "ok", "2 1 0", "ok", "1 2 0", "ok", "0 1 2", "people 3")
	wantLines(t,
		[]string{"trade", "wishes 1,0,2/0,1,2/0,2,1", "show", "trade", "wishes 0,1,2/1,0,2/2,1,0", "show", "trade", "show", "turns"},
		"ok", "ok", "0 1 2", "ok", "ok", "0 1 2", "ok", "0 1 2", "1", "people 3")
	wantLines(t,
		[]string{"wishes 1,0/0,1", "trade", "show", "wishes 0,1,2,3/0,1,2,3/0,1,2,3/0,1,2,3", "show", "take 3 2 1 0", "show", "wishes 0,1/0,1", "show", "order", "take 1 0", "show", "order"},
		"ok", "ok", "1 0", "ok", "0 1 2 3", "ok", "3 2 1 0", "ok", "0 1", "0 1", "ok", "1 0", "1 0", "people 2")
	// The same wishes again have all keep their own houses again.
	wantLines(t,
		[]string{"take 2 1 0", "show", "wishes 1,0,2/0,1,2/0,2,1", "show", "take 2 1 0", "show"},
		"ok", "2 1 0", "ok", "0 1 2", "ok", "2 1 0", "people 3")
}

func TestPeopleOfWishes(t *testing.T) {
	wantLines(t,
		[]string{"wishes 1,0/0,1", "show", "turns", "firms", "all", "ends", "long", "firm", "still", "good", "block", "goods", "order", "many", "happy", "as", "turn"},
		"ok", "0 1", "1", "1,0", "0,1", "1,0", "1", "not", "not", "not", "block 1 0", "1,0", "no", "0", "0", "i", "no", "people 2")
	wantLines(t,
		[]string{"wishes 0,1/0,1", "show", "turns", "firms", "all", "ends", "long", "firm", "still", "good", "block", "goods", "order", "many", "happy", "as", "turn"},
		"ok", "0 1", "2", "0,1", ".", "0,1", "0", "yes", "yes", "yes", "no", "0,1 1,0", "0 1", "1", "1", "i", "turns 0 1", "people 2")
	five := "wishes 1,0,2,3,4/0,1,2,3,4/3,2,0,1,4/2,3,0,1,4/4,0,1,2,3"
	wantLines(t,
		[]string{five, "show", "turns", "firms", "all", "ends", "long", "firm", "still", "good", "block", "goods", "order", "many", "happy", "as", "turn"},
		"ok", "0 1 2 3 4", "1", "1,0,3,2,4", "0,1 2,3", "1,0,3,2,4", "2", "not", "not", "not", "block 0 1 3 2 4", "1,0,3,2,4", "no", "0", "1", "i", "no", "people 5")
	wantLines(t,
		[]string{five, "trade", "show", "all", "firm", "still", "good", "block", "order", "many", "happy", "as", "turn"},
		"ok", "ok", "1 0 3 2 4", ".", "yes", "yes", "yes", "no", "0 1 2 3 4", "120", "5", "([ab].[cd])", "turns 0 1 2 3 4", "people 5")
	// Givings, orders and swaps of fewer and of more people.
	wantLines(t,
		[]string{"wishes 1,0/0,1", "give 0", "give 0 1 2", "give 2 0", "give 1 0", "take 0", "take 0 1 2", "take 1 2", "take 1 0", "swap 0 2", "swap 2 1", "swap 1 0", "show"},
		"ok", "no", "no", "no", "ok", "no", "no", "no", "ok", "no", "no", "ok", "0 1", "people 2")
	wantLines(t,
		[]string{five, "give 0 1 2 3", "give 0 1 2 3 4 5", "give 5 1 2 3 4", "give 4 3 2 1 0", "take 0 1 2 3", "take 0 1 2 3 4 5", "take 1 2 3 4 5", "swap 0 5", "swap 5 4", "swap 0 4", "show"},
		"ok", "no", "no", "no", "ok", "no", "no", "no", "no", "no", "ok", "0 3 2 1 4", "people 5")
}

// TestEveryWordOfGivings has all words without a rest asked for all wishes of two people and samples of more, with several givings.
func TestEveryWordOfGivings(t *testing.T) {
	words := strings.Join(slices.DeleteFunc(restless(), func(word string) bool { return word == "trade" }), "\n") + "\n"
	ask := func(w [][]int, g []int) {
		wantTold(t, wishesLine(w)+"\n"+words+"trade\n"+words)
		wantTold(t, wishesLine(w)+"\n"+numbersLine("give", g)+"\n"+words)
	}
	for _, w := range everyWishes(2) {
		for _, g := range ordersOf[2] {
			ask(w, g)
		}
	}
	d := dice(702)
	for n := 3; n <= impl.PeopleMax; n++ {
		for _, w := range someWishes(n, 8) {
			ask(w, randomOrder(&d, n))
			ask(w, ordersOf[n][len(ordersOf[n])-1])
		}
	}
}

// TestScriptsByTelling holds scripts of any lines, as they should be and spoiled ones, against the own reading.
func TestScriptsByTelling(t *testing.T) {
	d := dice(703)
	answers := map[string]int{}
	all := 0
	for i := range 3000 {
		script := randomScript(&d, 20+d.below(mostScriptBytes-19), i%3 > 0)
		if i%5 == 0 {
			script += randomLine(&d, 3)
		}
		for answer := range strings.SplitSeq(wantTold(t, script), "\n") {
			all++
			answers[answer]++
		}
	}
	for _, answer := range []string{"ok", "no", "what", "yes", "not", ".", "0", "too long", "people 2", "people 3", "people 4", "people 5"} {
		wantBoth(t, answer+" is printed", answers[answer], all)
	}
}

// TestScriptsAnswerAfresh runs different scripts behind each other, and the first ones again.
func TestScriptsAnswerAfresh(t *testing.T) {
	wantScript(t, "trade\nwishes 0,1/0,1\ntake 1 0\n", "ok\nok\nok\npeople 2\n")
	wantScript(t, "show\nturns\n", "0 1 2\n2\npeople 3\n")
	d := dice(704)
	for range 300 {
		first, second := randomScript(&d, mostScriptBytes, true), randomScript(&d, mostScriptBytes, false)
		want := wantTold(t, first)
		wantTold(t, second)
		wantScript(t, first+strings.Repeat("x", mostScriptBytes), "too long\n")
		wantScript(t, first, want)
	}
}

// TestScriptsSideBySide has several callers run the same scripts and others at the same time.
func TestScriptsSideBySide(t *testing.T) {
	var callers sync.WaitGroup
	for i := range 24 {
		callers.Go(func() {
			d := dice(710 + i/2)
			for range 30 {
				wantTold(t, randomScript(&d, mostScriptBytes, true))
			}
		})
	}
	callers.Wait()
}
