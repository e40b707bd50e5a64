package tests

import (
	"slices"
	"strings"
	"sync"
	"testing"

	"loop.example/tradecircles/impl"
)

func TestTermExamples(t *testing.T) {
	for _, c := range []struct {
		n    int
		s    string
		want termAnswers
	}{
		// i alone, for each number of people.
		{2, "i", termAnswers{[]int{0, 1}, "i", 1, 0, 0}},
		{3, "i", termAnswers{[]int{0, 1, 2}, "i", 1, 0, 0}},
		{4, "i", termAnswers{[]int{0, 1, 2, 3}, "i", 1, 0, 0}},
		{5, "i", termAnswers{[]int{0, 1, 2, 3, 4}, "i", 1, 0, 0}},
		// Circles of two letters, also of some people alone, and not beginning with the least letter.
		{2, "[ab]", termAnswers{[]int{1, 0}, "[ab]", 2, 2, 1}},
		{2, "[ba]", termAnswers{[]int{1, 0}, "[ab]", 2, 2, 1}},
		{5, "[ab]", termAnswers{[]int{1, 0, 2, 3, 4}, "[ab]", 2, 2, 1}},
		{5, "[ed]", termAnswers{[]int{0, 1, 2, 4, 3}, "[de]", 2, 2, 1}},
		{3, "[ca]", termAnswers{[]int{2, 1, 0}, "[ac]", 2, 2, 1}},
		// Circles of more letters.
		{3, "[abc]", termAnswers{[]int{1, 2, 0}, "[abc]", 3, 3, 1}},
		{3, "[cab]", termAnswers{[]int{1, 2, 0}, "[abc]", 3, 3, 1}},
		{3, "[cba]", termAnswers{[]int{2, 0, 1}, "[acb]", 3, 3, 1}},
		{4, "[dbc]", termAnswers{[]int{0, 2, 3, 1}, "[bcd]", 3, 3, 1}},
		{4, "[abcd]", termAnswers{[]int{1, 2, 3, 0}, "[abcd]", 4, 4, 1}},
		{5, "[dbca]", termAnswers{[]int{3, 2, 0, 1, 4}, "[adbc]", 4, 4, 1}},
		{5, "[abcde]", termAnswers{[]int{1, 2, 3, 4, 0}, "[abcde]", 5, 5, 1}},
		{5, "[caebd]", termAnswers{[]int{4, 3, 0, 2, 1}, "[aebdc]", 5, 5, 1}},
		// - in front of circles, of i, of brackets, and of -.
		{3, "-i", termAnswers{[]int{0, 1, 2}, "i", 1, 0, 0}},
		{2, "-[ab]", termAnswers{[]int{1, 0}, "[ab]", 2, 2, 1}},
		{3, "-[abc]", termAnswers{[]int{2, 0, 1}, "[acb]", 3, 3, 1}},
		{5, "-[abcde]", termAnswers{[]int{4, 0, 1, 2, 3}, "[aedcb]", 5, 5, 1}},
		{3, "-([ab].[bc])", termAnswers{[]int{1, 2, 0}, "[abc]", 3, 3, 1}},
		{3, "--[abc]", termAnswers{[]int{1, 2, 0}, "[abc]", 3, 3, 1}},
		{3, "---[abc]", termAnswers{[]int{2, 0, 1}, "[acb]", 3, 3, 1}},
		{3, "--i", termAnswers{[]int{0, 1, 2}, "i", 1, 0, 0}},
		// A digit in front of circles, of i, of brackets, of a digit, and of -, and - in front of a digit.
		{5, "9i", termAnswers{[]int{0, 1, 2, 3, 4}, "i", 1, 0, 0}},
		{2, "2[ab]", termAnswers{[]int{0, 1}, "i", 1, 0, 0}},
		{2, "9[ab]", termAnswers{[]int{1, 0}, "[ab]", 2, 2, 1}},
		{3, "2[abc]", termAnswers{[]int{2, 0, 1}, "[acb]", 3, 3, 1}},
		{3, "3[abc]", termAnswers{[]int{0, 1, 2}, "i", 1, 0, 0}},
		{3, "22[abc]", termAnswers{[]int{1, 2, 0}, "[abc]", 3, 3, 1}},
		{3, "23[abc]", termAnswers{[]int{0, 1, 2}, "i", 1, 0, 0}},
		{3, "-2[abc]", termAnswers{[]int{1, 2, 0}, "[abc]", 3, 3, 1}},
		{3, "2-[abc]", termAnswers{[]int{1, 2, 0}, "[abc]", 3, 3, 1}},
		{3, "-2-[abc]", termAnswers{[]int{2, 0, 1}, "[acb]", 3, 3, 1}},
		{3, "2-2-2[abc]", termAnswers{[]int{2, 0, 1}, "[acb]", 3, 3, 1}},
		{4, "2[abcd]", termAnswers{[]int{2, 3, 0, 1}, "([ac].[bd])", 2, 4, 2}},
		{5, "2[abcde]", termAnswers{[]int{2, 3, 4, 0, 1}, "[acebd]", 5, 5, 1}},
		{5, "9[abcde]", termAnswers{[]int{4, 0, 1, 2, 3}, "[aedcb]", 5, 5, 1}},
		{5, "23[abcde]", termAnswers{[]int{1, 2, 3, 4, 0}, "[abcde]", 5, 5, 1}},
		{5, "34[abcde]", termAnswers{[]int{2, 3, 4, 0, 1}, "[acebd]", 5, 5, 1}},
		{3, "2([ab].[bc])", termAnswers{[]int{1, 2, 0}, "[abc]", 3, 3, 1}},
		{5, "3([ab].[cde])", termAnswers{[]int{1, 0, 2, 3, 4}, "[ab]", 2, 2, 1}},
		{5, "4([ab].[cde])", termAnswers{[]int{0, 1, 3, 4, 2}, "[cde]", 3, 3, 1}},
		{5, "5([ab].[cde])", termAnswers{[]int{1, 0, 4, 2, 3}, "([ab].[ced])", 6, 5, 2}},
		{5, "6([ab].[cde])", termAnswers{[]int{0, 1, 2, 3, 4}, "i", 1, 0, 0}},
		// . with both sides exchanged, telling another trade or the same one.
		{3, "([ab].[bc])", termAnswers{[]int{2, 0, 1}, "[acb]", 3, 3, 1}},
		{3, "([bc].[ab])", termAnswers{[]int{1, 2, 0}, "[abc]", 3, 3, 1}},
		{3, "(2[abc].[ab])", termAnswers{[]int{2, 1, 0}, "[ac]", 2, 2, 1}},
		{3, "([ab].2[abc])", termAnswers{[]int{0, 2, 1}, "[bc]", 2, 2, 1}},
		{3, "(i.[abc])", termAnswers{[]int{1, 2, 0}, "[abc]", 3, 3, 1}},
		{3, "([abc].i)", termAnswers{[]int{1, 2, 0}, "[abc]", 3, 3, 1}},
		{2, "(i.i)", termAnswers{[]int{0, 1}, "i", 1, 0, 0}},
		{2, "([ab].[ab])", termAnswers{[]int{0, 1}, "i", 1, 0, 0}},
		{3, "(-[ab].-[bc])", termAnswers{[]int{2, 0, 1}, "[acb]", 3, 3, 1}},
		{3, "([abc].-[abc])", termAnswers{[]int{0, 1, 2}, "i", 1, 0, 0}},
		// Two circles at once, told in the one order and in the other one.
		{4, "([ab].[cd])", termAnswers{[]int{1, 0, 3, 2}, "([ab].[cd])", 2, 4, 2}},
		{4, "([cd].[ab])", termAnswers{[]int{1, 0, 3, 2}, "([ab].[cd])", 2, 4, 2}},
		{4, "([cb].[da])", termAnswers{[]int{3, 2, 1, 0}, "([ad].[bc])", 2, 4, 2}},
		{5, "([bd].[ae])", termAnswers{[]int{4, 3, 2, 1, 0}, "([ae].[bd])", 2, 4, 2}},
		{5, "([ab].[cde])", termAnswers{[]int{1, 0, 3, 4, 2}, "([ab].[cde])", 6, 5, 2}},
		{5, "([dec].[ba])", termAnswers{[]int{1, 0, 3, 4, 2}, "([ab].[cde])", 6, 5, 2}},
		{5, "([be].[dca])", termAnswers{[]int{3, 4, 0, 2, 1}, "([adc].[be])", 6, 5, 2}},
		// Brackets within brackets on either side.
		{4, "([ab].([bc].[cd]))", termAnswers{[]int{3, 0, 1, 2}, "[adcb]", 4, 4, 1}},
		{4, "(([ab].[bc]).[cd])", termAnswers{[]int{3, 0, 1, 2}, "[adcb]", 4, 4, 1}},
		{3, "((i.[ab]).(i.i))", termAnswers{[]int{1, 0, 2}, "[ab]", 2, 2, 1}},
		{4, "-(2([ab].[bc]).-([cd].i))", termAnswers{[]int{2, 0, 3, 1}, "[acdb]", 4, 4, 1}},
	} {
		wantTerm(t, c.n, c.s, c.want)
		if g := tradeByJoining(c.n, c.s); !slices.Equal(g, c.want.gives) {
			t.Errorf("the own reading of %q for %d people is %v", c.s, c.n, g)
		}
	}
}

// TestTermSameExamples has terms that look alike and are not the same, and others that are.
func TestTermSameExamples(t *testing.T) {
	for _, c := range []struct {
		n    int
		s    string
		u    string
		want bool
	}{
		{3, "[abc]", "[bca]", true},
		{3, "[abc]", "[acb]", false},
		{3, "[abc]", "-[acb]", true},
		{3, "([ab].[bc])", "([bc].[ab])", false},
		{3, "([ab].[bc])", "-([bc].[ab])", true},
		{4, "([ab].[cd])", "([cd].[ab])", true},
		{4, "([ab].[cd])", "([ac].[bd])", false},
		{5, "3[abcde]", "-2[abcde]", true},
		{5, "23[abcde]", "5[abcde]", false},
		{2, "i", "[ab]", false},
		{2, "i", "([ab].[ba])", true},
		{5, "i", "-9--8i", true},
		{5, "[ab]", "[de]", false},
		// A term and none, also one for more people.
		{2, "[ab]", "[abc]", false},
		{3, "[ab]", "[aab]", false},
		{3, "i", "", false},
		{3, "", "", false},
		{1, "i", "i", false},
		{6, "[ab]", "[ab]", false},
	} {
		wantSame(t, c.n, c.s, c.u, c.want)
	}
}

// TestSignsInFrontOfSigns has all signs up to four behind each other, which are told by following the trade behind them as often as they multiply to.
func TestSignsInFrontOfSigns(t *testing.T) {
	// Every trade of 5 people leads back after this many times, so one time less brings all back.
	const leadsBack = 60
	for _, s := range []string{"i", "[ba]", "[bca]", "[adcb]", "[caebd]", "([ab].[ecd])", "(2[abcde].-(i.[ab]))"} {
		g := tradeByJoining(5, s)
		for count := range 5 {
			for _, signs := range listsOver(count, 1, 9) {
				text, times := s, 1
				for _, sign := range slices.Backward(signs) {
					text = "_-23456789"[sign:sign+1] + text
					if sign == 1 {
						sign = leadsBack - 1
					}
					times = times * sign % leadsBack
				}
				want := make([]int, len(g))
				for i := range want {
					want[i] = stepsFrom(g, i, times)
				}
				if got := givesOf(t, 5, text); !slices.Equal(got, want) {
					t.Errorf("TermGives(5, %q) = %v, want %v", text, got, want)
				}
				if count < 3 {
					wantTerm(t, 5, text, termByTelling(want))
				}
			}
		}
	}
}

// TestTermDigits has each byte in front of terms: a term again behind - and 2 to 9 alone.
func TestTermDigits(t *testing.T) {
	for _, s := range []string{"i", "[ab]", "[bca]", "([ab].[bc])", "-[abc]", "2[abc]"} {
		for sign := range 256 {
			text := string([]byte{byte(sign)}) + s
			if wantText(t, 3, text) != (sign == '-' || sign >= '2' && sign <= '9') {
				t.Errorf("the own reading of %q is wrong", text)
			}
		}
	}
	for _, s := range []string{"0i", "1i", "0[ab]", "1[ab]", "1(i.i)", "-1i", "1-i", "21i", "12i", "02i", "20i", "10i", "(1i.i)", "(i.0i)"} {
		wantNoTerm(t, 3, s)
	}
}

// TestEveryCircle has all circles of different letters, from each of them on, and none for fewer people than have the letters.
func TestEveryCircle(t *testing.T) {
	for length := 2; length <= impl.PeopleMax; length++ {
		for _, people := range listsOver(length, 0, impl.PeopleMax-1) {
			ring := ""
			for _, person := range people {
				ring += allLetters[person : person+1]
			}
			for n := 2; n <= impl.PeopleMax; n++ {
				is := wantText(t, n, "["+ring+"]")
				if is != (allDifferent(people) && allWithin(people, 0, n-1)) {
					t.Errorf("the own reading of [%s] for %d people is wrong", ring, n)
				}
				if !is {
					continue
				}
				for at, person := range people {
					if got := givesOf(t, n, "["+ring+"]")[person]; got != people[(at+1)%length] {
						t.Errorf("by [%s], %d gets %d", ring, person, got)
					}
				}
			}
		}
	}
}

// TestPairs has each two givings of up to four people joined, and some of five.
func TestPairs(t *testing.T) {
	all, other := 0, 0
	for n := 2; n <= impl.PeopleMax; n++ {
		for at, first := range ordersOf[n] {
			for to, second := range ordersOf[n] {
				if n == impl.PeopleMax && (at+to)%7 != 0 {
					continue
				}
				want := make([]int, n)
				for i := range want {
					want[i] = second[first[i]]
				}
				s, u := tidyTerms[n][keyOf(first)], tidyTerms[n][keyOf(second)]
				wantTerm(t, n, "("+s+"."+u+")", termByTelling(want))
				same := keyOf(first) == keyOf(second)
				wantSame(t, n, s, u, same)
				all++
				if !impl.TermSame(n, "("+s+"."+u+")", "("+u+"."+s+")") {
					other++
				}
			}
		}
	}
	wantBoth(t, "both sides exchanged tell another trade", other, all)
}

// TestTermBytes has terms of 58, 59 and 60 bytes, and texts of 61 and more that would be terms if these were shorter.
func TestTermBytes(t *testing.T) {
	left, right, both := "[abc]", "[abc]", "([ab].[bc])"
	for len(left) < 49 {
		left, right = "("+left+".-[bc])", "(2[ab]."+right+")"
	}
	for len(both) < 25 {
		both = "(" + both + "." + both + ")"
	}
	for _, s := range []string{"i", "[ab]", "[bca]", "(i.i)", left, right, both} {
		for _, signs := range []string{"-", "2", "9", "-2", "3-", "234567-89"} {
			for bytes := len(s); bytes <= mostTermBytes+5; bytes++ {
				text := strings.Repeat(signs, mostTermBytes+5)[:bytes-len(s)] + s
				if got := wantText(t, 3, text); got != (bytes <= mostTermBytes) {
					t.Errorf("the own reading of %q is wrong", text)
				}
			}
		}
	}
}

// TestDeepBrackets has brackets within brackets on either side, as deep as there is room for.
func TestDeepBrackets(t *testing.T) {
	for _, s := range []string{"i", "[ab]", "[cba]", "-[abc]"} {
		for _, around := range [][2]string{{"(", ".i)"}, {"(i.", ")"}, {"(", ".[bc])"}, {"([bc].", ")"}, {"-(", ".2[abc])"}, {"3([ab].", ")"}} {
			for deep := range 20 {
				text := strings.Repeat(around[0], deep) + s + strings.Repeat(around[1], deep)
				if got := wantText(t, 3, text); got != (len(text) <= mostTermBytes) {
					t.Errorf("the own reading of %q is wrong", text)
				}
			}
		}
	}
}

// TestEveryTidyTerm has each giving of 2 to 5 people.
func TestEveryTidyTerm(t *testing.T) {
	for n := 2; n <= impl.PeopleMax; n++ {
		met := map[int]int{}
		for _, g := range ordersOf[n] {
			tidy, ok := impl.TermOf(g)
			if want := tidyTerms[n][keyOf(g)]; !ok || tidy != want {
				t.Errorf("TermOf(%v) = %q, %t, want %q", g, tidy, ok, want)
			}
			want := termByTelling(g)
			wantTerm(t, n, tidy, want)
			met[want.times]++
		}
		for times := 1; times <= 7; times++ {
			if there := times <= n || n == 5 && times == 6; there != (met[times] > 0) {
				t.Errorf("%d givings of %d people lead back after %d times", met[times], n, times)
			}
		}
	}
}

// TestTermsOfSomePeople has the same text told for more and for fewer people: it moves the same ones for all who have its letters.
func TestTermsOfSomePeople(t *testing.T) {
	for letters := 2; letters <= impl.PeopleMax; letters++ {
		for _, s := range sampleTerms(letters, 60) {
			for n := -1; n <= impl.PeopleMax+2; n++ {
				wantText(t, n, s)
			}
			// The highest letter of a sample may be less than it could be.
			if n := letters; n < impl.PeopleMax {
				want := append(givesOf(t, n, s), n)
				if got := givesOf(t, n+1, s); !slices.Equal(got, want) {
					t.Errorf("TermGives(%d, %q) = %v, want %v", n+1, s, got, want)
				}
			}
		}
	}
}

// textsOver returns all texts of up to a number of parts.
func textsOver(most int, parts ...string) []string {
	all := []string{""}
	for from, length := 0, 0; length < most; length++ {
		to := len(all)
		for _, text := range all[from:to] {
			for _, part := range parts {
				all = append(all, text+part)
			}
		}
		from = to
	}
	return all
}

// TestEveryShortText holds all texts of few bytes against the own reading.
func TestEveryShortText(t *testing.T) {
	for _, c := range []struct {
		most  int
		signs string
	}{
		{3, termSigns + "01fA_ \n\x00\x80\xff"},
		{4, termSigns},
		{5, "i-9[]().abc"},
		{6, "-2[]ab"},
		{8, "i()."},
	} {
		all, terms := 0, 0
		for _, s := range textsOver(c.most, strings.Split(c.signs, "")...) {
			all++
			if wantText(t, 2+all%4, s) {
				terms++
			}
		}
		wantBoth(t, "a text is a term", terms, all)
	}
}

// TestEveryTextOfParts holds all texts of few parts against the own reading.
func TestEveryTextOfParts(t *testing.T) {
	all, terms := 0, 0
	for _, s := range textsOver(5, "i", "-", "3", "[ab]", "[bca]", "(", ".", ")") {
		all++
		if wantText(t, 3, s) {
			terms++
		}
	}
	for _, s := range textsOver(6, "[acb]", "-", "(", ".", ")", "2") {
		all++
		if wantText(t, 3, s) {
			terms++
		}
	}
	for _, s := range textsOver(9, "[acb]", "(", ".", ")") {
		all++
		if wantText(t, 4, s) {
			terms++
		}
	}
	wantBoth(t, "a text is a term", terms, all)
}

// TestTermsByTelling holds samples of terms against the own reading, and each one against the one ahead of it.
func TestTermsByTelling(t *testing.T) {
	for n := 2; n <= impl.PeopleMax; n++ {
		all, same := 0, 0
		before := "i"
		for _, s := range sampleTerms(n, 1500) {
			if !wantText(t, n, s) {
				t.Errorf("%q is no term for %d people", s, n)
			}
			alike := slices.Equal(tradeByJoining(n, s), tradeByJoining(n, before))
			wantSame(t, n, s, before, alike)
			all++
			if alike {
				same++
			}
			before = s
		}
		wantBoth(t, "two terms tell the same", same, all)
	}
}

// TestSpoiledTerms has terms with one byte changed, taken out, put in, or exchanged with the one behind it.
func TestSpoiledTerms(t *testing.T) {
	for n := 2; n <= impl.PeopleMax; n++ {
		all, terms := 0, 0
		for _, s := range sampleTerms(n, 25) {
			for _, spoiled := range spoiledTexts(s) {
				all++
				if wantText(t, n, spoiled) {
					terms++
				}
			}
		}
		wantBoth(t, "a spoiled term is one", terms, all)
	}
}

// TestTermsAnswerAfresh asks for different terms behind each other, for texts that are none between, and for the first ones again.
func TestTermsAnswerAfresh(t *testing.T) {
	d := dice(510)
	ask := func(n int, s string) {
		if !wantText(t, n, s) {
			t.Errorf("%q is no term for %d people", s, n)
		}
	}
	var samples [impl.PeopleMax + 1][]string
	for n := 2; n <= impl.PeopleMax; n++ {
		samples[n] = sampleTerms(n, 30)
	}
	for range 2000 {
		n, other := 2+d.below(4), 2+d.below(4)
		s, between := samples[n][d.below(30)], samples[other][d.below(30)]
		ask(n, s)
		ask(other, between)
		wantNoTerm(t, other, between+")")
		wantNoTerm(t, 6, s)
		ask(n, s)
	}
}

// TestTermsSideBySide has several callers ask for different terms at the same time, so that nothing may be kept in one place for all of them.
func TestTermsSideBySide(t *testing.T) {
	var callers sync.WaitGroup
	for n := 2; n <= impl.PeopleMax; n++ {
		for at := range 3 {
			callers.Go(func() {
				for _, s := range sampleTerms(n, 100+at) {
					wantText(t, n, s)
					wantNoTerm(t, n, s+"i")
				}
			})
		}
	}
	callers.Wait()
}
