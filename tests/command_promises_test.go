package tests

import (
	"slices"
	"strings"
	"testing"

	"loop.example/tradecircles/impl"
)

// aheadOfLast returns the output of a script but its last line, and this one.
func aheadOfLast(t *testing.T, script string) (string, string) {
	t.Helper()
	output := impl.Execute(script)
	ahead, ended := strings.CutSuffix(output, "\n")
	at := strings.LastIndex(ahead, "\n") + 1
	if !ended || !strings.HasPrefix(ahead[at:], "people ") {
		t.Fatalf("Execute(%q) = %q", script, output)
	}
	return ahead[:at], ahead[at:]
}

func TestPromise105(t *testing.T) {
	if got := impl.Execute(""); got != "people 3\n" {
		t.Errorf("Execute of an empty script is %q", got)
	}
	tails := []string{"x", " ", "show", "zzz", "wishes 0,1/1,0", "wishes 0,1", "term [ab]", "trade", "\x00", "\xff\xfe", strings.Repeat("show ", 20)}
	followed, tooLong := 0, 0
	for _, script := range append(completeScripts(60, 1), completeScripts(60, 0)...) {
		want := impl.Execute(script)
		if want == "" {
			t.Errorf("Execute(%q) is empty", script)
		}
		for _, tail := range tails {
			got := impl.Execute(script + tail)
			if len(script+tail) <= impl.MaxScript {
				followed++
				if got != want {
					t.Errorf("Execute(%q) = %q, want %q", script+tail, got, want)
				}
				continue
			}
			tooLong++
			if got != "too long\n" {
				t.Errorf("Execute(%q) = %q", script+tail, got)
			}
		}
	}
	wantBoth(t, "a script is too long", tooLong, followed+tooLong)
}

func TestPromise106(t *testing.T) {
	for _, script := range completeScripts(200, 14) {
		ahead, last := aheadOfLast(t, script)
		if got, want := impl.Execute(script+"zzz\nwishes x\n"), ahead+"what\nno\n"+last+"\n"; got != want {
			t.Errorf("Execute of %q, zzz and wishes x = %q, want %q", script, got, want)
		}
	}
}

func TestPromise107(t *testing.T) {
	people := map[int]int{}
	for _, script := range completeScripts(200, 10) {
		ahead, last := aheadOfLast(t, script)
		got, gotLast := aheadOfLast(t, script+"show\nshow\n")
		behind, is := strings.CutPrefix(got, ahead)
		first, second, _ := strings.Cut(behind, "\n")
		if !is || second != first+"\n" || gotLast != last {
			t.Errorf("Execute of %q, show and show = %q, %q, and without these %q, %q", script, got, gotLast, ahead, last)
		}
		n := len(numbersIn(first))
		people[n]++
		if last != numbersLine("people", []int{n}) || !impl.HouseGiving(n, numbersIn(first)) {
			t.Errorf("Execute of %q and show prints %q, and %q at the end", script, first, last)
		}
	}
	for n := 2; n <= impl.PeopleMax; n++ {
		if people[n] == 0 {
			t.Errorf("no script has %d people at its end", n)
		}
	}
}

func TestPromise108(t *testing.T) {
	all, met, gains := 0, 0, 0
	for _, a := range promiseTables() {
		all++
		proof, ok := impl.ProofRate(a)
		if !ok {
			continue
		}
		met++
		if strings.HasPrefix(proof, "gains") {
			gains++
		}
		if got := linesOf(rowsLine("rates", a) + "\n"); !slices.Equal(got, []string{proof, "people 3"}) {
			t.Errorf("rates of %v prints %q, want %q", a, got, proof)
		}
	}
	wantBoth(t, "ProofRate succeeds", met, all)
	wantBoth(t, "a round gains", gains, met)
}

func TestPromise109(t *testing.T) {
	all, met, own := 0, 0, 0
	for _, w := range append(sampleWishes(40), spoiledWishes(threeSwap)...) {
		all++
		giving, ok := impl.HouseTrade(w)
		if !ok {
			continue
		}
		met++
		if slices.Equal(giving, countUp(len(w))) {
			own++
		}
		want := []string{"ok", "ok", printedNumbers(giving, " "), numbersLine("people", []int{len(w)})}
		if got := linesOf(wishesLine(w) + "\ntrade\nshow\n"); !slices.Equal(got, want) {
			t.Errorf("wishes of %v, trade and show print %q, want %q", w, got, want)
		}
	}
	wantBoth(t, "HouseTrade succeeds", met, all)
	wantBoth(t, "all keep their own houses", own, met)
}

func TestPromise110(t *testing.T) {
	all, met, free := 0, 0, 0
	for _, v := range slices.Concat(sampleBids(10), smallBids(3), spoiledBids(threeForTwo)) {
		all++
		prices, ok := impl.FairLow(v)
		if !ok {
			continue
		}
		met++
		if slices.Max(prices) == 0 {
			free++
		}
		if got := linesOf(rowsLine("low", v) + "\n"); !slices.Equal(got, []string{printedNumbers(prices, " "), "people 3"}) {
			t.Errorf("low of %v prints %q, want %v", v, got, prices)
		}
	}
	wantBoth(t, "FairLow succeeds", met, all)
	wantBoth(t, "all prices are 0", free, met)
}
