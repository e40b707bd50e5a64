package tests

import (
	"slices"
	"testing"

	"loop.example/tradecircles/impl"
)

const (
	mostOutcomes   = 6
	mostOddsNumber = 20
	mostStake      = 1000000000
	// noRest is for odds behind which there is no number for one more outcome.
	noRest = 0
	// wholeParts is a multiple of all numbers from 1 to 20, so that one over each of them is a whole number of such parts of 1.
	wholeParts = 232792560
)

// partsOf returns the sum of one over each number, in parts of which wholeParts are 1: so it needs no fractions.
func partsOf(o []int) int {
	sum := 0
	for _, number := range o {
		sum += wholeParts / number
	}
	return sum
}

// stakesByTrying looks for the least number that one may get back for each outcome, among the multiples of the greatest number.
func stakesByTrying(o []int) []int {
	greatest := slices.Max(o)
	back := greatest
	for slices.ContainsFunc(o, func(number int) bool { return back%number != 0 }) {
		back += greatest
	}
	stakes := make([]int, len(o))
	for i, number := range o {
		stakes[i] = back / number
	}
	return stakes
}

// restByTrying tries all numbers for one more outcome.
func restByTrying(o []int) int {
	if len(o) == mostOutcomes {
		return noRest
	}
	for number := 1; number <= mostOddsNumber; number++ {
		if partsOf(o)+wholeParts/number < wholeParts {
			return number
		}
	}
	return noRest
}

// leastByTelling returns the return that is not greater than any other one.
func leastByTelling(o []int, s []int) int {
	var returns []int
	for i := range o {
		returns = append(returns, o[i]*s[i])
	}
	slices.Sort(returns)
	return returns[0]
}

func greaterOfBoth(o []int, q []int) []int {
	greater := slices.Clone(o)
	for i := range greater {
		if q[i] > greater[i] {
			greater[i] = q[i]
		}
	}
	return greater
}

// withNumber returns odds with a number for one more outcome behind.
func withNumber(o []int, number int) []int {
	return append(slices.Clone(o), number)
}

func backwards(list []int) []int {
	turned := slices.Clone(list)
	slices.Reverse(turned)
	return turned
}

// oddsAnswers are those of the questions about odds alone.
type oddsAnswers struct {
	upper  int
	lower  int
	sure   bool
	stakes []int
	rest   int
}

func oddsByTelling(o []int) oddsAnswers {
	parts := withoutDivisor([]int{partsOf(o), wholeParts})
	return oddsAnswers{parts[0], parts[1], partsOf(o) < wholeParts, stakesByTrying(o), restByTrying(o)}
}

// wantOdds has all questions about odds alone answered as told.
func wantOdds(t *testing.T, o []int, want oddsAnswers) {
	t.Helper()
	if !impl.OddsIn(o) {
		t.Errorf("OddsIn(%v) does not hold", o)
	}
	if upper, lower, ok := impl.OddsSum(o); !ok || upper != want.upper || lower != want.lower {
		t.Errorf("OddsSum(%v) = %d, %d, %t, want %d, %d", o, upper, lower, ok, want.upper, want.lower)
	}
	if got := impl.OddsSure(o); got != want.sure {
		t.Errorf("OddsSure(%v) = %t", o, got)
	}
	if got, ok := impl.OddsStakes(o); !ok || !slices.Equal(got, want.stakes) {
		t.Errorf("OddsStakes(%v) = %v, %t, want %v", o, got, ok, want.stakes)
	}
	if got, ok := impl.OddsRest(o); got != want.rest || ok != (want.rest != noRest) {
		t.Errorf("OddsRest(%v) = %d, %t, want %d", o, got, ok, want.rest)
	}
}

// wantStaked has both questions about stakes answered as told.
func wantStaked(t *testing.T, o []int, s []int, least int, sum int) {
	t.Helper()
	if gotLeast, gotSum, ok := impl.OddsLeast(o, s); !ok || gotLeast != least || gotSum != sum {
		t.Errorf("OddsLeast(%v, %v) = %d, %d, %t, want %d, %d", o, s, gotLeast, gotSum, ok, least, sum)
	}
	if got := impl.OddsWins(o, s); got != (least > sum) {
		t.Errorf("OddsWins(%v, %v) = %t, but the least return is %d, and the sum %d", o, s, got, least, sum)
	}
}

// wantBetter also has both odds exchanged.
func wantBetter(t *testing.T, o []int, q []int, want []int) {
	t.Helper()
	got, ok := impl.OddsBest(o, q)
	wantList(t, "OddsBest", got, ok, want)
	got, ok = impl.OddsBest(q, o)
	wantList(t, "OddsBest of both exchanged", got, ok, want)
}

// sumPartsOf and the functions behind it are for arguments of which it is known that they are odds and stakes.
func sumPartsOf(t *testing.T, o []int) (int, int) {
	t.Helper()
	upper, lower, ok := impl.OddsSum(o)
	if !ok {
		t.Fatalf("OddsSum(%v) fails", o)
	}
	return upper, lower
}

func stakesOf(t *testing.T, o []int) []int {
	t.Helper()
	s, ok := impl.OddsStakes(o)
	if !ok || len(s) != len(o) {
		t.Fatalf("OddsStakes(%v) = %v, %t", o, s, ok)
	}
	return s
}

func leastOf(t *testing.T, o []int, s []int) (int, int) {
	t.Helper()
	least, sum, ok := impl.OddsLeast(o, s)
	if !ok {
		t.Fatalf("OddsLeast(%v, %v) fails", o, s)
	}
	return least, sum
}

func betterOf(t *testing.T, o []int, q []int) []int {
	t.Helper()
	best, ok := impl.OddsBest(o, q)
	if !ok || len(best) != len(o) {
		t.Fatalf("OddsBest(%v, %v) = %v, %t", o, q, best, ok)
	}
	return best
}

func randomOdds(d *dice, n int, least int, most int) []int {
	o := make([]int, n)
	for i := range o {
		o[i] = least + d.below(most-least+1)
	}
	return o
}

// nearOne returns odds with numbers for one more outcome behind by which the sum is as near to 1 as it comes, and on both sides of it.
func nearOne(o []int) [][]int {
	left := wholeParts - partsOf(o)
	if left <= 0 {
		return nil
	}
	var all [][]int
	for number := wholeParts/left - 1; number <= wholeParts/left+2; number++ {
		if number >= 1 && number <= mostOddsNumber {
			all = append(all, withNumber(o, number))
		}
	}
	return all
}

// risingOdds returns all odds whose numbers do not fall from one outcome to the next one.
func risingOdds(n int) [][]int {
	all := [][]int{nil}
	for range n {
		var longer [][]int
		for _, o := range all {
			for number := slices.Max(withNumber(o, 1)); number <= mostOddsNumber; number++ {
				longer = append(longer, withNumber(o, number))
			}
		}
		all = longer
	}
	return all
}

// greatRests have 20 as the least number for one more outcome.
var greatRests = [][]int{{2, 3, 16, 19}, {18, 17, 3, 2}, {2, 18, 7, 4}, {2, 4, 11, 17, 20}, {19, 18, 11, 4, 2}, {2, 4, 13, 14, 20}}

// sampleOdds has odds for each number of outcomes: any ones, those of great and of small numbers, those that are alike, those with the number 1, and those whose sum is near to 1 or behind which only a great number is enough.
func sampleOdds(count int) [][]int {
	d := dice(400)
	all := slices.Clone(greatRests)
	for n := 2; n <= mostOutcomes; n++ {
		for _, number := range []int{1, 2, n, n + 1, 19, 20} {
			all = append(all, slices.Repeat([]int{number}, n))
		}
		for range count {
			mixed, one := randomOdds(&d, n, 1, mostOddsNumber), randomOdds(&d, n, 2, mostOddsNumber)
			one[d.below(n)] = 1
			all = append(all, mixed, one, randomOdds(&d, n, 1, 6), randomOdds(&d, n, n, mostOddsNumber), randomOdds(&d, n, 15, mostOddsNumber))
			if n > 2 {
				all = append(all, nearOne(randomOdds(&d, n-1, n-1, mostOddsNumber))...)
			}
		}
	}
	return all
}

// fewOdds has all odds for two outcomes, and all of numbers up to a greatest one for three.
func fewOdds(most int) [][]int {
	return slices.Concat(listsOver(2, 1, mostOddsNumber), listsOver(3, 1, most))
}

// tellingStakes are those that get the same back, some near to them, those at the limits, and any others.
func tellingStakes(d *dice, o []int) [][]int {
	n := len(o)
	even := stakesByTrying(o)
	most := allTimes(even, mostStake/slices.Max(even))
	all := [][]int{even, allTimes(even, 2), most, make([]int, n), slices.Repeat([]int{1}, n), slices.Repeat([]int{mostStake}, n), randomStakes(d, n, 5), randomStakes(d, n, mostStake)}
	for i := range n {
		alone := make([]int, n)
		alone[i] = mostStake
		all = append(all, alone)
		for _, units := range []int{0, even[i] - 1, even[i] + 1, mostStake} {
			changed := slices.Clone(even)
			changed[i] = units
			all = append(all, changed)
		}
	}
	return all
}

func randomStakes(d *dice, n int, most int) []int {
	s := make([]int, n)
	for i := range s {
		s[i] = d.below(most + 1)
	}
	return s
}
