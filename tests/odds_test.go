package tests

import (
	"slices"
	"sync"
	"testing"

	"loop.example/tradecircles/impl"
)

func TestOddsExamples(t *testing.T) {
	for _, c := range []struct {
		o    []int
		want oddsAnswers
	}{
		// Two outcomes: a half and a third are five sixths, so that more than 6 must be there for the sixth that is left.
		{[]int{2, 3}, oddsAnswers{5, 6, true, []int{3, 2}, 7}},
		{[]int{3, 4}, oddsAnswers{7, 12, true, []int{4, 3}, 3}},
		{[]int{4, 3}, oddsAnswers{7, 12, true, []int{3, 4}, 3}},
		{[]int{19, 20}, oddsAnswers{39, 380, true, []int{20, 19}, 2}},
		// The number 1: at one outcome, at several, and at all.
		{[]int{1, 20}, oddsAnswers{21, 20, false, []int{20, 1}, noRest}},
		{[]int{20, 1}, oddsAnswers{21, 20, false, []int{1, 20}, noRest}},
		{[]int{1, 1}, oddsAnswers{2, 1, false, []int{1, 1}, noRest}},
		{[]int{1, 2}, oddsAnswers{3, 2, false, []int{2, 1}, noRest}},
		{[]int{20, 20, 1, 20, 20}, oddsAnswers{6, 5, false, []int{1, 1, 20, 1, 1}, noRest}},
		{[]int{1, 7, 1, 1}, oddsAnswers{22, 7, false, []int{7, 1, 7, 7}, noRest}},
		{[]int{3, 1, 1, 3, 1, 3}, oddsAnswers{4, 1, false, []int{1, 3, 3, 1, 3, 1}, noRest}},
		{[]int{1, 1, 1}, oddsAnswers{3, 1, false, []int{1, 1, 1}, noRest}},
		{[]int{1, 1, 1, 1, 1, 1}, oddsAnswers{6, 1, false, []int{1, 1, 1, 1, 1, 1}, noRest}},
		// The number 20.
		{[]int{20, 20}, oddsAnswers{1, 10, true, []int{1, 1}, 2}},
		{[]int{20, 5, 2}, oddsAnswers{3, 4, true, []int{1, 4, 10}, 5}},
		{[]int{20, 20, 20, 20, 20}, oddsAnswers{1, 4, true, []int{1, 1, 1, 1, 1}, 2}},
		{[]int{20, 20, 20, 20, 20, 20}, oddsAnswers{3, 10, true, []int{1, 1, 1, 1, 1, 1}, noRest}},
		// All alike.
		{[]int{4, 4}, oddsAnswers{1, 2, true, []int{1, 1}, 3}},
		{[]int{7, 7, 7}, oddsAnswers{3, 7, true, []int{1, 1, 1}, 2}},
		{[]int{6, 6, 6, 6, 6}, oddsAnswers{5, 6, true, []int{1, 1, 1, 1, 1}, 7}},
		{[]int{7, 7, 7, 7, 7, 7}, oddsAnswers{6, 7, true, []int{1, 1, 1, 1, 1, 1}, noRest}},
		// All different.
		{[]int{20, 19, 17, 13, 11, 9}, oddsAnswers{3661481, 8314020, true, []int{415701, 437580, 489060, 639540, 755820, 923780}, noRest}},
		{[]int{19, 11, 17, 13, 16, 15}, oddsAnswers{4527859, 11085360, true, []int{583440, 1007760, 652080, 852720, 692835, 739024}, noRest}},
		{[]int{2, 3, 4, 5, 6}, oddsAnswers{29, 20, false, []int{30, 20, 15, 12, 10}, noRest}},
		// Just 1.
		{[]int{2, 2}, oddsAnswers{1, 1, false, []int{1, 1}, noRest}},
		{[]int{2, 3, 6}, oddsAnswers{1, 1, false, []int{3, 2, 1}, noRest}},
		{[]int{4, 2, 4}, oddsAnswers{1, 1, false, []int{1, 2, 1}, noRest}},
		{[]int{2, 5, 4, 20}, oddsAnswers{1, 1, false, []int{10, 4, 5, 1}, noRest}},
		{[]int{2, 4, 8, 16, 16}, oddsAnswers{1, 1, false, []int{8, 4, 2, 1, 1}, noRest}},
		{[]int{6, 6, 6, 6, 6, 6}, oddsAnswers{1, 1, false, []int{1, 1, 1, 1, 1, 1}, noRest}},
		// A little less, for which no number up to 20 is great enough, or a great one only.
		{[]int{2, 3, 7}, oddsAnswers{41, 42, true, []int{21, 14, 6}, noRest}},
		{[]int{2, 4, 5}, oddsAnswers{19, 20, true, []int{10, 5, 4}, noRest}},
		{[]int{2, 3, 9, 19}, oddsAnswers{341, 342, true, []int{171, 114, 38, 18}, noRest}},
		{[]int{2, 4, 10, 11, 17}, oddsAnswers{3739, 3740, true, []int{1870, 935, 374, 340, 220}, noRest}},
		{[]int{2, 5, 11, 11, 16, 18}, oddsAnswers{7919, 7920, true, []int{3960, 1584, 720, 720, 495, 440}, noRest}},
		{[]int{2, 3, 9}, oddsAnswers{17, 18, true, []int{9, 6, 2}, 19}},
		{[]int{2, 3, 17, 18}, oddsAnswers{145, 153, true, []int{153, 102, 18, 17}, 20}},
		{[]int{16, 2, 19, 3}, oddsAnswers{865, 912, true, []int{57, 456, 48, 304}, 20}},
		{[]int{2, 4, 7, 18}, oddsAnswers{239, 252, true, []int{126, 63, 36, 14}, 20}},
		{[]int{2, 4, 11, 17, 20}, oddsAnswers{888, 935, true, []int{1870, 935, 340, 220, 187}, 20}},
		// A little more.
		{[]int{2, 3, 5}, oddsAnswers{31, 30, false, []int{15, 10, 6}, noRest}},
		{[]int{2, 3, 11, 13}, oddsAnswers{859, 858, false, []int{429, 286, 78, 66}, noRest}},
		{[]int{2, 3, 17, 18, 19}, oddsAnswers{2908, 2907, false, []int{2907, 1938, 342, 323, 306}, noRest}},
		{[]int{2, 7, 7, 10, 17, 18}, oddsAnswers{10711, 10710, false, []int{5355, 1530, 1530, 1071, 630, 595}, noRest}},
		// A common divisor before lowest terms: even over the least number that all divide.
		{[]int{3, 6}, oddsAnswers{1, 2, true, []int{2, 1}, 3}},
		{[]int{4, 12}, oddsAnswers{1, 3, true, []int{3, 1}, 2}},
		{[]int{10, 15}, oddsAnswers{1, 6, true, []int{3, 2}, 2}},
		{[]int{4, 6}, oddsAnswers{5, 12, true, []int{3, 2}, 2}},
		{[]int{6, 10, 15}, oddsAnswers{1, 3, true, []int{5, 3, 2}, 2}},
		{[]int{6, 6, 6}, oddsAnswers{1, 2, true, []int{1, 1, 1}, 3}},
		{[]int{12, 18, 20, 15, 9}, oddsAnswers{11, 30, true, []int{15, 10, 9, 12, 20}, 2}},
		// Whole numbers above 1.
		{[]int{1, 2, 2}, oddsAnswers{2, 1, false, []int{2, 1, 1}, noRest}},
		{[]int{2, 2, 2, 2}, oddsAnswers{2, 1, false, []int{1, 1, 1, 1}, noRest}},
		{[]int{1, 2, 3, 6}, oddsAnswers{2, 1, false, []int{6, 3, 2, 1}, noRest}},
		{[]int{2, 1, 2, 1}, oddsAnswers{3, 1, false, []int{1, 2, 1, 2}, noRest}},
	} {
		wantOdds(t, c.o, c.want)
	}
}

// TestOddsOfAlikeNumbers has each number for each number of outcomes.
func TestOddsOfAlikeNumbers(t *testing.T) {
	for n := 2; n <= mostOutcomes; n++ {
		for number := 1; number <= mostOddsNumber; number++ {
			parts := withoutDivisor([]int{n, number})
			o := slices.Repeat([]int{number}, n)
			want := oddsAnswers{parts[0], parts[1], n < number, slices.Repeat([]int{1}, n), restByTrying(o)}
			wantOdds(t, o, want)
			wantStaked(t, o, want.stakes, number, n)
		}
	}
}

func TestOddsLeastExamples(t *testing.T) {
	for _, c := range []struct {
		o     []int
		s     []int
		least int
		sum   int
	}{
		// The same back for each outcome, alone and with a common divisor.
		{[]int{3, 4}, []int{4, 3}, 12, 7},
		{[]int{3, 4}, []int{40, 30}, 120, 70},
		{[]int{2, 3, 6}, []int{3, 2, 1}, 6, 6},
		{[]int{2, 3, 6}, []int{300, 200, 100}, 600, 600},
		// The least return at the first outcome, at the last one, and between.
		{[]int{3, 4}, []int{1, 3}, 3, 4},
		{[]int{3, 4}, []int{4, 1}, 4, 5},
		{[]int{5, 2, 9}, []int{2, 4, 1}, 8, 7},
		{[]int{9, 1, 9, 9}, []int{1, 2, 1, 1}, 2, 5},
		{[]int{20, 20, 20, 20, 20, 20}, []int{6, 5, 4, 3, 2, 1}, 20, 21},
		// Stakes of 0: one, several, and all.
		{[]int{20, 20}, []int{0, 5}, 0, 5},
		{[]int{20, 20}, []int{5, 0}, 0, 5},
		{[]int{20, 20, 20}, []int{7, 0, 8}, 0, 15},
		{[]int{20, 20, 20, 20}, []int{0, 0, 3, 0}, 0, 3},
		{[]int{2, 3}, []int{0, 0}, 0, 0},
		{[]int{20, 20, 20, 20, 20, 20}, []int{0, 0, 0, 0, 0, 0}, 0, 0},
		{[]int{1, 1, 1, 1, 1, 1}, []int{0, 0, 0, 0, 0, 0}, 0, 0},
		// Stakes of 1000000000.
		{[]int{20, 20}, []int{mostStake, mostStake}, 20000000000, 2000000000},
		{[]int{20, 20, 20, 20, 20, 20}, []int{mostStake, mostStake, mostStake, mostStake, mostStake, mostStake}, 20000000000, 6000000000},
		{[]int{1, 1, 1, 1, 1, 1}, []int{mostStake, mostStake, mostStake, mostStake, mostStake, mostStake}, 1000000000, 6000000000},
		{[]int{2, 3}, []int{mostStake, 0}, 0, 1000000000},
		{[]int{20, 1}, []int{1, mostStake}, 20, 1000000001},
		{[]int{4, 5}, []int{mostStake, mostStake - 1}, 4000000000, 1999999999},
		// A least return that is the sum, one less, and one more.
		{[]int{2, 2}, []int{1, 1}, 2, 2},
		{[]int{2, 2}, []int{1, 2}, 2, 3},
		{[]int{3, 4}, []int{2, 2}, 6, 4},
		{[]int{3, 3}, []int{1, 1}, 3, 2},
		{[]int{3, 3}, []int{1, 2}, 3, 3},
		{[]int{3, 3}, []int{1, 3}, 3, 4},
		{[]int{3, 4}, []int{2, 3}, 6, 5},
		{[]int{2, 4, 5}, []int{10, 5, 4}, 20, 19},
		{[]int{2, 4, 5}, []int{10, 6, 4}, 20, 20},
		{[]int{2, 4, 5}, []int{10, 6, 5}, 20, 21},
		{[]int{2, 2}, []int{mostStake, mostStake}, 2000000000, 2000000000},
		{[]int{2, 2}, []int{mostStake, mostStake - 1}, 1999999998, 1999999999},
	} {
		wantStaked(t, c.o, c.s, c.least, c.sum)
	}
}

func TestOddsBestExamples(t *testing.T) {
	for _, c := range []struct {
		o    []int
		q    []int
		best []int
	}{
		// Each of both has the greater number at some outcome.
		{[]int{2, 5}, []int{3, 4}, []int{3, 5}},
		{[]int{1, 20}, []int{20, 1}, []int{20, 20}},
		{[]int{3, 1, 3}, []int{2, 2, 2}, []int{3, 2, 3}},
		{[]int{1, 2, 3, 4, 5, 6}, []int{6, 5, 4, 3, 2, 1}, []int{6, 5, 4, 4, 5, 6}},
		// One has all of them, or all but one.
		{[]int{2, 2}, []int{3, 3}, []int{3, 3}},
		{[]int{2, 7}, []int{3, 7}, []int{3, 7}},
		{[]int{9, 8, 7, 6, 5}, []int{9, 8, 7, 6, 4}, []int{9, 8, 7, 6, 5}},
		{[]int{1, 1, 1, 1, 1, 1}, []int{20, 20, 20, 20, 20, 20}, []int{20, 20, 20, 20, 20, 20}},
		// Both the same.
		{[]int{1, 1}, []int{1, 1}, []int{1, 1}},
		{[]int{4, 20, 1, 3}, []int{4, 20, 1, 3}, []int{4, 20, 1, 3}},
	} {
		wantBetter(t, c.o, c.q, c.best)
	}
}

// TestOddsBestMaySureBoth has two odds of which none is sure, but the best of both are.
func TestOddsBestMaySureBoth(t *testing.T) {
	o, q := []int{1, 5}, []int{4, 1}
	if impl.OddsSure(o) || impl.OddsSure(q) || !impl.OddsSure(betterOf(t, o, q)) {
		t.Errorf("OddsSure(%v) = %t, OddsSure(%v) = %t, OddsSure of both = %t", o, impl.OddsSure(o), q, impl.OddsSure(q), impl.OddsSure(betterOf(t, o, q)))
	}
}

// TestOddsByTelling has all odds for two outcomes and for three, all for four whose numbers do not fall, and samples of more.
func TestOddsByTelling(t *testing.T) {
	all, sure, rests := 0, 0, [mostOddsNumber + 1]int{}
	for _, o := range slices.Concat(fewOdds(mostOddsNumber), risingOdds(4), sampleOdds(60)) {
		want := oddsByTelling(o)
		wantOdds(t, o, want)
		all++
		if want.sure {
			sure++
		}
		rests[want.rest]++
	}
	wantBoth(t, "odds are sure", sure, all)
	for rest, count := range rests {
		if (count > 0) != (rest != 1) {
			t.Errorf("%d odds have the least number %d", count, rest)
		}
	}
}

// TestOddsSumByTelling has all odds whose numbers do not fall, for each number of outcomes.
func TestOddsSumByTelling(t *testing.T) {
	less, just, more := 0, 0, 0
	for n := 2; n <= mostOutcomes; n++ {
		for _, o := range risingOdds(n) {
			sum := partsOf(o)
			want := withoutDivisor([]int{sum, wholeParts})
			if upper, lower := sumPartsOf(t, o); upper != want[0] || lower != want[1] {
				t.Errorf("OddsSum(%v) = %d, %d, want %d, %d", o, upper, lower, want[0], want[1])
			}
			if got := impl.OddsSure(o); got != (sum < wholeParts) {
				t.Errorf("OddsSure(%v) = %t", o, got)
			}
			switch {
			case sum < wholeParts:
				less++
			case sum == wholeParts:
				just++
			default:
				more++
			}
		}
	}
	if less == 0 || just == 0 || more == 0 {
		t.Errorf("%d sums are less than 1, %d just 1, %d more", less, just, more)
	}
}

// TestOddsWithStakes has small stakes for all odds of small numbers.
func TestOddsWithStakes(t *testing.T) {
	met := map[int]int{}
	for n, most := range []int{2: 7, 3: 4} {
		if n < 2 {
			continue
		}
		for _, o := range listsOver(n, 1, most) {
			for _, s := range listsOver(n, 0, most) {
				least, sum := leastByTelling(o, s), sumOf(s)
				wantStaked(t, o, s, least, sum)
				met[least-sum]++
			}
		}
	}
	for _, more := range []int{-1, 0, 1} {
		if met[more] == 0 {
			t.Errorf("no stakes have %d more as least return than as sum: %v", more, met)
		}
	}
}

func TestOddsWithTellingStakes(t *testing.T) {
	d := dice(410)
	all, wins := 0, 0
	for _, o := range slices.Concat(fewOdds(6), sampleOdds(20)) {
		for _, s := range tellingStakes(&d, o) {
			least, sum := leastByTelling(o, s), sumOf(s)
			wantStaked(t, o, s, least, sum)
			all++
			if least > sum {
				wins++
			}
		}
	}
	wantBoth(t, "stakes win", wins, all)
}

// TestOddsBestByTelling holds any two odds for as many outcomes against each other.
func TestOddsBestByTelling(t *testing.T) {
	d := dice(420)
	for _, n := range []int{2, 3} {
		small := listsOver(n, 1, 5)
		for _, o := range small {
			for _, q := range small {
				wantBetter(t, o, q, greaterOfBoth(o, q))
			}
		}
	}
	for _, o := range sampleOdds(40) {
		q := randomOdds(&d, len(o), 1, mostOddsNumber)
		wantBetter(t, o, q, greaterOfBoth(o, q))
	}
}

// TestOddsRestByTrying asks OddsSure for all numbers behind odds.
func TestOddsRestByTrying(t *testing.T) {
	for _, o := range slices.Concat(fewOdds(mostOddsNumber), risingOdds(4), risingOdds(5), sampleOdds(40)) {
		rest, ok := impl.OddsRest(o)
		if len(o) == mostOutcomes {
			if ok || rest != 0 {
				t.Errorf("OddsRest(%v) = %d, %t", o, rest, ok)
			}
			continue
		}
		for number := 1; number <= mostOddsNumber; number++ {
			if got := impl.OddsSure(withNumber(o, number)); got != (ok && number >= rest) {
				t.Errorf("OddsRest(%v) = %d, %t, but OddsSure with %d behind is %t", o, rest, ok, number, got)
			}
		}
	}
}

// TestOddsRestOfManyOutcomes has odds of 5 outcomes, for which there may be a number, and of 6, for which there is none though the sum has room for it.
func TestOddsRestOfManyOutcomes(t *testing.T) {
	for _, c := range []struct {
		o    []int
		rest int
	}{
		{[]int{20, 20, 20, 20, 20}, 2},
		{[]int{10, 10, 10, 10, 10}, 3},
		{[]int{7, 7, 7, 7, 7}, 4},
		{[]int{2, 4, 11, 17, 20}, 20},
		{[]int{2, 4, 10, 20, 20}, noRest},
		{[]int{5, 5, 5, 5, 5}, noRest},
		{[]int{1, 20, 20, 20, 20}, noRest},
		{[]int{20, 20, 20, 20, 20, 20}, noRest},
		{[]int{7, 7, 7, 7, 7, 7}, noRest},
		{[]int{1, 1, 1, 1, 1, 1}, noRest},
	} {
		if got, ok := impl.OddsRest(c.o); got != c.rest || ok != (c.rest != noRest) {
			t.Errorf("OddsRest(%v) = %d, %t, want %d", c.o, got, ok, c.rest)
		}
	}
}

// TestOddsInAnyOrder has the numbers of odds in all orders: sum and rest stay, and stakes go along with the numbers.
func TestOddsInAnyOrder(t *testing.T) {
	for _, o := range [][]int{{2, 9}, {2, 3, 7}, {1, 4, 6}, {2, 3, 17, 18}, {2, 4, 11, 17, 20}, {20, 19, 17, 13, 11, 9}, {1, 1, 2, 2, 3, 20}} {
		want := oddsByTelling(o)
		for _, order := range ordersOf[len(o)] {
			turned, stakes := make([]int, len(o)), make([]int, len(o))
			for i, from := range order {
				turned[i], stakes[i] = o[from], want.stakes[from]
			}
			wantOdds(t, turned, oddsAnswers{want.upper, want.lower, want.sure, stakes, want.rest})
		}
	}
}

// TestOddsAnswersAfresh asks for different odds behind each other, for some that are none between, and for the first ones again.
func TestOddsAnswersAfresh(t *testing.T) {
	d := dice(430)
	samples := slices.Concat([][]int{{2, 3}, {2, 3, 6}, {1, 1}, {20, 20}, {2, 3, 17, 18}}, sampleOdds(2))
	wants := make([]oddsAnswers, len(samples))
	for at, o := range samples {
		wants[at] = oddsByTelling(o)
	}
	ask := func(at int) {
		o, want := samples[at], wants[at]
		q := randomOdds(&d, len(o), 1, mostOddsNumber)
		wantOdds(t, o, want)
		wantStaked(t, o, want.stakes, o[0]*want.stakes[0], sumOf(want.stakes))
		wantBetter(t, o, q, greaterOfBoth(o, q))
	}
	for range 2000 {
		at := d.below(len(samples))
		ask(at)
		ask(d.below(len(samples)))
		wantNoOdds(t, withNumber(samples[at], 21))
		ask(at)
	}
}

// TestOddsSideBySide has several callers ask for different odds at the same time, so that nothing may be kept in one place for all of them.
func TestOddsSideBySide(t *testing.T) {
	var callers sync.WaitGroup
	for _, o := range sampleOdds(3) {
		want := oddsByTelling(o)
		callers.Go(func() {
			for range 50 {
				wantOdds(t, o, want)
			}
		})
	}
	callers.Wait()
}
