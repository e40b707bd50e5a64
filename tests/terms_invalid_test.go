package tests

import (
	"math"
	"slices"
	"strings"
	"testing"

	"loop.example/tradecircles/impl"
)

// spoilingBytes are those that are put into texts: signs of terms, digits, letters, spaces, and others.
const spoilingBytes = termSigns + "01fghABCDEFIj_{}<>*+,:;/=\" \t\r\n\x00\x01\x7f\x80\xe4\xff"

// spoiledTexts returns texts that differ from a text in one byte.
func spoiledTexts(s string) []string {
	var all []string
	for at := range len(s) + 1 {
		for k := range len(spoilingBytes) {
			all = append(all, s[:at]+spoilingBytes[k:k+1]+s[at:])
			if at < len(s) {
				all = append(all, s[:at]+spoilingBytes[k:k+1]+s[at+1:])
			}
		}
		if at < len(s) {
			all = append(all, s[:at]+s[at+1:])
		}
		if at+1 < len(s) {
			all = append(all, s[:at]+s[at+1:at+2]+s[at:at+1]+s[at+2:])
		}
	}
	return all
}

// noTerms has texts that are no terms for any number of people.
func noTerms() []string {
	return []string{
		"",
		// A sign alone, or several.
		"-", "2", "9", "0", "1", "--", "22", "-2", "2-", "[", "]", "(", ")", ".", "a", "e", "[]", "()", "(.)", "ab", "..", "-.", "i.", ".i", "i.i",
		// A sign too many in front or behind.
		"i-", "i2", "ii", "i i", "[ab]-", "[ab]2", "[ab]i", "i[ab]", "[ab][ab]", "[ab].[ab]", ".[ab]", "[ab].", "(i.i)-", "(i.i)3", "(i.i)i", "i(i.i)", "(i.i)(i.i)", "(i.i).i", "+i", "*[ab]",
		// Brackets that are not closed, closed twice, not opened, or closed by others.
		"[ab", "[abcde", "[[ab]", "[ab]]", "[ab)", "ab]", "(i.i", "(i.[ab]", "(i.i))", "((i.i)", "((i.i.i)", "(i.i].", "[i.i]", "i.i)", "(i.[ab)", "(i.[ab)]", "((i.i).i", "(i.(i.i)", "[a[bc]]", "(i.i[", "i]", "i)", "[(ab)]",
		// Round ones without a point, with two, or with nothing on a side.
		"(i)", "([ab])", "(ii)", "(i i)", "([ab][bc])", "(-i)", "((i.i))", "(i.i.i)", "([ab].[ab].[ab])", "(i..i)", "(.i)", "(i.)", "(..)", "([ab].)", "(.[ab])", "(-.i)", "(i.-)", "(2.i)", "(i.2)", "(i.())", "((i.i).)",
		// Circles of no letter, of one, of one twice, of six, and of none of the letters.
		"[]", "[a]", "[e]", "[aa]", "[bb]", "[aba]", "[abb]", "[abcda]", "[abcdd]", "[abcdea]", "[abcdef]", "[abcdeabcde]", "[af]", "[fa]", "[fg]", "[abf]", "[ai]", "[i]", "[ii]", "[a-b]", "[a.b]", "[2a]", "[a2]", "[01]", "[a,b]", "[a`]",
		// Capital letters, spaces and line ends.
		"I", "[AB]", "[Ab]", "[aB]", "[ABC]", " i", "i ", " ", "[ab] ", " [ab]", "[a b]", "[ ab]", "[ab ]", "- i", "2 i", "( i.i)", "(i .i)", "(i. i)", "(i.i )", "i\n", "\ni", "i\r\n", "[ab]\n", "[a\nb]", "(i.\ni)", "i\t", "\n",
		// Bytes that are no signs, those above 127 among them. The last ones have an a or an i as their lower bits.
		"\x00", "i\x00", "\x00i", "[ab]\x00", "[ab\x00]", "[ab]\x00\x00", "(i.i)\x00", "(i.i\x00)", "(i\x00i)", "\x7fi", "\x80", "\xff", "i\xff", "\xffi", "[a\xff]", "[ä]", "[aä]", "ı", "−i", "２i", "²i", "①i", "i。", "[аb]", "ｉ", "[\xe1b]", "[a\xe2]", "\xe9", "\xad\xe9", "\xb2i",
		// Other digits, and numbers of several.
		"0i", "1i", "0[ab]", "1[ab]", "10i", "01i", "-0i", "-1i", "1-i", "0", "1",
	}
}

func TestNoTerms(t *testing.T) {
	for _, s := range noTerms() {
		for n := -1; n <= impl.PeopleMax+2; n++ {
			wantNoTerm(t, n, s)
			if g := tradeByJoining(n, s); g != nil {
				t.Errorf("the own reading of %q for %d people is %v", s, n, g)
			}
			for _, around := range [][2]string{{"-", ""}, {"2", ""}, {"(i.", ")"}, {"(", ".i)"}, {"(" + s + ".", ")"}} {
				wantText(t, n, around[0]+s+around[1])
			}
		}
	}
}

// TestTermsForNoPeople has terms for each number of people, for numbers that there are not.
func TestTermsForNoPeople(t *testing.T) {
	for letters := 2; letters <= impl.PeopleMax; letters++ {
		for _, s := range sampleTerms(letters, 30) {
			for _, n := range []int{0, 1, 6, 7, -1, -2, -5, 26, 60, 255, 256 + 3, 1<<32 + 3, math.MaxInt, math.MinInt, math.MinInt + 3} {
				wantNoTerm(t, n, s)
			}
		}
	}
}

// TestLettersOfOthers has letters that there are people for only if these are more.
func TestLettersOfOthers(t *testing.T) {
	for at, letter := range allLetters {
		for _, s := range []string{"[b" + string(letter) + "]", "[" + string(letter) + "b]", "-[b" + string(letter) + "]", "3-[b" + string(letter) + "]", "(i.[b" + string(letter) + "])", "([b" + string(letter) + "].i)", "([ab].-(2[" + string(letter) + "b].i))"} {
			for n := 2; n <= impl.PeopleMax; n++ {
				if got := wantText(t, n, s); got != (at < n && letter != 'b') {
					t.Errorf("the own reading of %q for %d people is wrong", s, n)
				}
			}
		}
	}
}

// TestTermSameOfOne has a term and a text that is none.
func TestTermSameOfOne(t *testing.T) {
	for n := 2; n <= impl.PeopleMax; n++ {
		for _, s := range sampleTerms(n, 20) {
			for _, other := range append(noTerms(), s+"]", s+" ", "("+s+")", strings.Repeat("-", mostTermBytes)+"i") {
				wantSame(t, n, s, other, false)
			}
		}
	}
}

// TestLongTexts has texts that are too long by far, which take no time and no depth.
func TestLongTexts(t *testing.T) {
	const many = 1 << 20
	for _, s := range []string{strings.Repeat("-", many) + "i", strings.Repeat("2", many) + "i", strings.Repeat("(", many), strings.Repeat("(i.", many) + "i" + strings.Repeat(")", many), strings.Repeat("i", many), strings.Repeat("[ab]", many), "[" + strings.Repeat("ab", many) + "]", strings.Repeat("\x00", many), "i" + strings.Repeat(" ", many)} {
		for n := 2; n <= impl.PeopleMax; n++ {
			wantNoTerm(t, n, s)
		}
	}
}

// TestNoTermOf has lists that are no givings.
func TestNoTermOf(t *testing.T) {
	wantNone := func(g []int) {
		t.Helper()
		if got, ok := impl.TermOf(g); ok || got != "" {
			t.Errorf("TermOf(%v) = %q, %t", g, got, ok)
		}
	}
	for _, g := range [][]int{nil, {}, {0}, {1}, {-1}, {0, 0}, {1, 1}, {1, 2}, {0, 2}, {-1, 0}, {0, 1, 2, 3, 4, 5}, {5, 4, 3, 2, 1, 0}, {1, 0, 3, 2, 5, 4, 6}, make([]int, 100000)} {
		wantNone(g)
	}
	for n := 2; n <= impl.PeopleMax; n++ {
		for _, g := range ordersOf[n] {
			for _, spoiled := range noOrders(g) {
				// With n behind, it is a giving for one more person.
				if !allDifferent(spoiled) || !allWithin(spoiled, 0, len(spoiled)-1) || len(spoiled) < 2 || len(spoiled) > impl.PeopleMax {
					wantNone(spoiled)
				}
			}
		}
	}
}

// TestAnyTermOf tries all lists of small numbers.
func TestAnyTermOf(t *testing.T) {
	for length := range 6 {
		for _, g := range listsOver(length, -1, 5) {
			want := ""
			if length >= 2 && allWithin(g, 0, length-1) && allDifferent(g) {
				want = tidyTerms[length][keyOf(g)]
			}
			if got, ok := impl.TermOf(g); got != want || ok != (want != "") {
				t.Errorf("TermOf(%v) = %q, %t, want %q", g, got, ok, want)
			}
		}
	}
}

func callAllTerms(n int, s string, other string, g []int) {
	impl.TermIn(n, s)
	impl.TermGives(n, s)
	impl.TermTidy(n, s)
	impl.TermSame(n, s, other)
	impl.TermOf(g)
	impl.TermTimes(n, s)
	impl.TermMoved(n, s)
}

// TestTermArgumentsStay also has any panic fail, for all kinds of arguments, valid or not.
func TestTermArgumentsStay(t *testing.T) {
	texts := slices.Concat(noTerms(), sampleTerms(3, 15), sampleTerms(5, 15))
	lists := [][]int{nil, {0}, {0, 1}, {1, 0}, {2, 0, 1}, {1, 0, 3, 2}, {1, 0, 3, 4, 2}, {0, 0}, {1, 2}, {-1, 0}, {5, 4, 3, 2, 1, 0}, {math.MinInt, math.MaxInt}}
	for at, s := range texts {
		other := texts[(at+7)%len(texts)]
		// A copy byte by byte, which shares no memory with the text.
		before, otherBefore := string([]byte(s)), string([]byte(other))
		for _, n := range []int{math.MinInt, -1, 0, 1, 2, 3, 4, 5, 6, math.MaxInt} {
			for _, list := range lists {
				g := roomy(list)
				kept := withRoom(g)
				callAllTerms(n, s, other, g)
				if !slices.Equal(withRoom(g), kept) || s != before || other != otherBefore {
					t.Fatalf("the arguments %d, %q, %q, %v have become %q, %q, %v", n, before, otherBefore, list, s, other, g)
				}
			}
		}
	}
}

// TestTermResultsAreApart writes and appends to some results, which changes neither other ones nor an argument, and overwrites the argument of TermOf, which changes no result.
func TestTermResultsAreApart(t *testing.T) {
	for n := 2; n <= impl.PeopleMax; n++ {
		for _, s := range sampleTerms(n, 100) {
			want := tradeByJoining(n, s)
			kept, written, grown := givesOf(t, n, s), givesOf(t, n, s), givesOf(t, n, s)
			inner := givesOf(t, n, "(i."+tidyOf(t, n, s)+")")
			overwrite(written)
			overwrite(append(grown, 7777))
			if !slices.Equal(kept, want) || !slices.Equal(inner, want) || !slices.Equal(givesOf(t, n, s), want) {
				t.Errorf("results for %q have become %v and %v, want %v", s, kept, inner, want)
			}
			g := roomy(want)
			tidy, _ := impl.TermOf(g)
			copied := string([]byte(tidy))
			overwrite(g)
			if tidy != copied || tidy != tidyTerms[n][keyOf(want)] {
				t.Errorf("TermOf(%v) has become %q", want, tidy)
			}
			wantTerm(t, n, s, termByTelling(want))
		}
	}
}
