package tests

import (
	"slices"
	"strings"
	"testing"

	"loop.example/tradecircles/impl"
)

// eachPromiseText has texts with numbers of people for which the promises of the chapter are tried: terms, terms for other people, and texts that are none.
func eachPromiseText(f func(n int, s string)) {
	texts := noTerms()
	for letters := 2; letters <= impl.PeopleMax; letters++ {
		texts = append(texts, sampleTerms(letters, 150)...)
	}
	texts = append(texts, textsOver(3, strings.Split(termSigns, "")...)...)
	texts = append(texts, textsOver(4, "i", "-", "2", "[ab]", "[ced]", "[bcda]")...)
	for _, s := range texts {
		for n := 1; n <= impl.PeopleMax+1; n++ {
			f(n, s)
		}
	}
}

// eachPromiseTerm has the terms among these.
func eachPromiseTerm(t *testing.T, f func(n int, s string)) {
	t.Helper()
	all, met := 0, 0
	eachPromiseText(func(n int, s string) {
		all++
		if impl.TermIn(n, s) {
			met++
			f(n, s)
		}
	})
	wantBoth(t, "TermIn holds", met, all)
}

func TestPromise87(t *testing.T) {
	met := map[int]int{}
	eachPromiseTerm(t, func(n int, s string) {
		met[len(s)]++
		if n < impl.PeopleMax && !impl.TermIn(n+1, s) {
			t.Errorf("TermIn(%d, %q) holds, and not for one more person", n, s)
		}
		if len(s) == mostTermBytes {
			return
		}
		if !impl.TermIn(n, "-"+s) || !impl.TermIn(n, "2"+s) {
			t.Errorf("TermIn(%d, %q) holds, with - in front %t, with 2 in front %t", n, s, impl.TermIn(n, "-"+s), impl.TermIn(n, "2"+s))
		}
		for _, bracket := range []string{")", "(", "]", "["} {
			if impl.TermIn(n, s+bracket) {
				t.Errorf("TermIn(%d, %q) holds", n, s+bracket)
			}
		}
	})
	for _, bytes := range []int{1, mostTermBytes - 1, mostTermBytes} {
		if met[bytes] == 0 {
			t.Errorf("no term has %d bytes", bytes)
		}
	}
}

func TestPromise88(t *testing.T) {
	met := 0
	eachPromiseTerm(t, func(n int, s string) {
		g := givesOf(t, n, s)
		if !impl.HouseGiving(n, g) {
			t.Errorf("TermGives(%d, %q) = %v is no giving", n, s, g)
		}
		if len(s) > pairedBytes {
			return
		}
		met++
		back := "(" + s + ".-" + s + ")"
		if got := givesOf(t, n, back); !slices.Equal(got, countUp(n)) || !impl.TermSame(n, back, "i") {
			t.Errorf("TermGives(%d, %q) = %v", n, back, got)
		}
	})
	if met == 0 {
		t.Error("no term is short enough")
	}
}

func TestPromise89(t *testing.T) {
	all, own := 0, 0
	eachPromiseTerm(t, func(n int, s string) {
		tidy := tidyOf(t, n, s)
		of, ok := impl.TermOf(givesOf(t, n, s))
		if tidyOf(t, n, tidy) != tidy || !ok || of != tidy || !impl.TermSame(n, s, tidy) {
			t.Errorf("TermTidy(%d, %q) = %q, of itself %q, TermOf %q, TermSame %t", n, s, tidy, tidyOf(t, n, tidy), of, impl.TermSame(n, s, tidy))
		}
		all++
		if tidy == s {
			own++
		}
	})
	wantBoth(t, "a term is tidy", own, all)
}

func TestPromise90(t *testing.T) {
	all, same := 0, 0
	var before [impl.PeopleMax + 1][]string
	eachPromiseTerm(t, func(n int, s string) {
		before[n] = append(before[n], s)
		for at := len(before[n]) - 1; at >= 0; at -= 1 + at/3 {
			other := before[n][at]
			holds := impl.TermSame(n, s, other)
			alike := tidyOf(t, n, s) == tidyOf(t, n, other)
			if holds != alike || impl.TermSame(n, other, s) != holds {
				t.Errorf("TermSame(%d, %q, %q) = %t, exchanged %t, TermTidy the same %t", n, s, other, holds, impl.TermSame(n, other, s), alike)
			}
			all++
			if holds {
				same++
			}
		}
	})
	wantBoth(t, "TermSame holds", same, all)
}

func TestPromise91(t *testing.T) {
	all, met := 0, 0
	for length := range impl.PeopleMax + 2 {
		for _, g := range listsOver(length, 0, max(1, length-1)) {
			all++
			s, ok := impl.TermOf(g)
			if !ok {
				continue
			}
			met++
			if got := givesOf(t, length, s); !slices.Equal(got, g) {
				t.Errorf("TermOf(%v) = %q, but this gives %v", g, s, got)
			}
		}
	}
	wantBoth(t, "TermOf succeeds", met, all)
}

func TestPromise92(t *testing.T) {
	var met [8]int
	eachPromiseTerm(t, func(n int, s string) {
		times, ok := impl.TermTimes(n, s)
		if !ok || times < 1 || times > 6 {
			t.Fatalf("TermTimes(%d, %q) = %d, %t", n, s, times, ok)
		}
		met[times]++
		g := givesOf(t, n, s)
		for often := 1; often <= times; often++ {
			back := true
			for i := range g {
				back = back && stepsFrom(g, i, often) == i
			}
			if back != (often == times) {
				t.Errorf("TermTimes(%d, %q) = %d, but %v leads back after %d times: %t", n, s, times, g, often, back)
			}
		}
	})
	for times := 1; times <= 6; times++ {
		if met[times] == 0 {
			t.Errorf("no term leads back after %d times", times)
		}
	}
}

func TestPromise93(t *testing.T) {
	var met [3][impl.PeopleMax + 1]int
	eachPromiseTerm(t, func(n int, s string) {
		moved, circles, ok := impl.TermMoved(n, s)
		if !ok || (moved == 0) != (circles == 0) || moved < 2*circles || moved > n {
			t.Fatalf("TermMoved(%d, %q) = %d, %d, %t", n, s, moved, circles, ok)
		}
		met[circles][moved]++
	})
	for moved, count := range met[0] {
		if (count > 0) != (moved == 0) || (met[1][moved] > 0) != (moved >= 2) || (met[2][moved] > 0) != (moved >= 4) {
			t.Errorf("numbers of terms by circles and people moved: %v", met)
		}
	}
}

func TestPromise94(t *testing.T) {
	all, keep := 0, 0
	eachPromiseTerm(t, func(n int, s string) {
		if len(s) > pairedBytes {
			return
		}
		twice, joined := givesOf(t, n, "2"+s), givesOf(t, n, "("+s+"."+s+")")
		g := givesOf(t, n, s)
		for i := range g {
			if twice[i] != joined[i] || twice[i] != stepsFrom(g, i, 2) {
				t.Errorf("TermGives(%d, %q) = %v, with 2 in front %v, joined to itself %v", n, s, g, twice, joined)
			}
		}
		all++
		if slices.Equal(twice, countUp(n)) {
			keep++
		}
	})
	wantBoth(t, "all keep their houses by a term with 2 in front", keep, all)
}

func TestPromise95(t *testing.T) {
	var met [3]int
	eachPromiseTerm(t, func(n int, s string) {
		moved, circles, ok := impl.TermMoved(n, s)
		tidy := tidyOf(t, n, s)
		letters := len(strings.Trim(strings.NewReplacer("(", "", ")", "", "[", "", "]", "", ".", "").Replace(tidy), "i"))
		if !ok || circles != strings.Count(tidy, "[") || moved != letters {
			t.Errorf("TermMoved(%d, %q) = %d, %d, %t, TermTidy %q", n, s, moved, circles, ok, tidy)
		}
		met[circles]++
	})
	if slices.Contains(met[:], 0) {
		t.Errorf("numbers of terms by circles: %v", met)
	}
}
