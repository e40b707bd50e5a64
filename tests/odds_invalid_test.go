package tests

import (
	"math"
	"slices"
	"testing"

	"loop.example/tradecircles/impl"
)

// noOddsNumbers are no numbers that odds have. The ones above 1<<32 are numbers of odds in 32 bits.
var noOddsNumbers = []int{0, -1, -2, -20, 21, 22, 40, 1 << 32, 1<<32 + 2, 1<<40 + 20, math.MaxInt, math.MinInt, math.MinInt + 3}

// noStakeNumbers are no numbers of units that are staked.
var noStakeNumbers = []int{-1, -2, -mostStake, mostStake + 1, 2 * mostStake, 1 << 32, 1<<32 + 5, math.MaxInt/20 + 1, math.MaxInt, math.MinInt, math.MinInt + 5}

// spoiledOdds returns lists that differ from odds in one number.
func spoiledOdds(o []int) [][]int {
	var all [][]int
	for i := range o {
		for _, x := range noOddsNumbers {
			spoiled := slices.Clone(o)
			spoiled[i] = x
			all = append(all, spoiled)
		}
	}
	return all
}

// notOdds has lists of no number of outcomes, and lists with one number or all numbers that odds do not have.
func notOdds() [][]int {
	all := [][]int{nil, {}, {1}, {2}, {20}, {0}, {7, 7, 7, 7, 7, 7, 7}, {1, 2, 3, 4, 5, 6, 7}, {20, 20, 20, 20, 20, 20, 20}, slices.Repeat([]int{20}, 8), slices.Repeat([]int{20}, 100000)}
	for n := 2; n <= mostOutcomes; n++ {
		for _, number := range []int{1, 2, 20} {
			all = append(all, spoiledOdds(slices.Repeat([]int{number}, n))...)
		}
		for _, x := range noOddsNumbers {
			all = append(all, slices.Repeat([]int{x}, n))
		}
	}
	return all
}

// wantNoStaked has both functions that take stakes fail.
func wantNoStaked(t *testing.T, o []int, s []int) {
	t.Helper()
	if least, sum, ok := impl.OddsLeast(o, s); ok || least != 0 || sum != 0 {
		t.Errorf("OddsLeast(%v, %v) = %d, %d, %t", o, s, least, sum, ok)
	}
	if impl.OddsWins(o, s) {
		t.Errorf("OddsWins(%v, %v) holds", o, s)
	}
}

// wantNoBetter has OddsBest fail for both orders.
func wantNoBetter(t *testing.T, o []int, q []int) {
	t.Helper()
	best, ok := impl.OddsBest(o, q)
	wantList(t, "OddsBest", best, ok, nil)
	best, ok = impl.OddsBest(q, o)
	wantList(t, "OddsBest of both exchanged", best, ok, nil)
}

// wantNoOdds has all functions of the chapter fail with zero values for a list that is no odds, with stakes and other odds that would be right for it if it were.
func wantNoOdds(t *testing.T, o []int) {
	t.Helper()
	n := min(len(o), 9)
	if impl.OddsIn(o) || impl.OddsSure(o) {
		t.Errorf("OddsIn(%v) = %t, OddsSure = %t", o, impl.OddsIn(o), impl.OddsSure(o))
	}
	if upper, lower, ok := impl.OddsSum(o); ok || upper != 0 || lower != 0 {
		t.Errorf("OddsSum(%v) = %d, %d, %t", o, upper, lower, ok)
	}
	s, ok := impl.OddsStakes(o)
	wantList(t, "OddsStakes", s, ok, nil)
	if rest, ok := impl.OddsRest(o); ok || rest != 0 {
		t.Errorf("OddsRest(%v) = %d, %t", o, rest, ok)
	}
	for _, stakes := range [][]int{nil, {1, 1}, make([]int, n), slices.Repeat([]int{1}, n), slices.Repeat([]int{mostStake}, n), {1, 1, 1, 1, 1, 1}} {
		wantNoStaked(t, o, stakes)
	}
	for _, q := range [][]int{nil, o, {20, 20}, slices.Repeat([]int{1}, n), slices.Repeat([]int{20}, n), {3, 3, 3, 3, 3, 3}} {
		wantNoBetter(t, o, q)
	}
}

func TestNoOdds(t *testing.T) {
	for _, o := range notOdds() {
		wantNoOdds(t, o)
	}
}

// TestOddsLimits tries all numbers around those that odds have, and all numbers of outcomes.
func TestOddsLimits(t *testing.T) {
	for number := -3; number <= 24; number++ {
		for n := range 10 {
			o := slices.Repeat([]int{number}, n)
			if number >= 1 && number <= 20 && n >= 2 && n <= 6 {
				wantOdds(t, o, oddsByTelling(o))
				wantBetter(t, o, o, o)
			} else {
				wantNoOdds(t, o)
			}
		}
		for i := range 3 {
			o := []int{4, 4, 4}
			o[i] = number
			if number >= 1 && number <= 20 {
				wantOdds(t, o, oddsByTelling(o))
			} else {
				wantNoOdds(t, o)
			}
		}
	}
}

// TestAnyOdds tries all lists of up to three numbers on both sides of each limit.
func TestAnyOdds(t *testing.T) {
	numbers := []int{math.MinInt, -1, 0, 1, 2, 19, 20, 21, math.MaxInt}
	for length := range 4 {
		for _, o := range listsOver(length, 0, len(numbers)-1) {
			for i := range o {
				o[i] = numbers[o[i]]
			}
			if length >= 2 && allWithin(o, 1, mostOddsNumber) {
				wantOdds(t, o, oddsByTelling(o))
			} else {
				wantNoOdds(t, o)
			}
		}
	}
}

// TestNoStakes has lists that differ from stakes in one number or in their length.
func TestNoStakes(t *testing.T) {
	for _, o := range slices.Concat([][]int{{2, 3}, {1, 1}, {20, 20}, {2, 3, 7}}, sampleOdds(3)) {
		n := len(o)
		for _, s := range [][]int{stakesByTrying(o), make([]int, n), slices.Repeat([]int{1}, n), slices.Repeat([]int{mostStake}, n)} {
			wantStaked(t, o, s, leastByTelling(o, s), sumOf(s))
			for _, other := range [][]int{nil, {}, s[1:], s[:n-1], s[:1], withNumber(s, 0), withNumber(s, 1), append([]int{5}, s...), slices.Repeat([]int{1}, 100000)} {
				wantNoStaked(t, o, other)
			}
			for i := range s {
				for _, x := range noStakeNumbers {
					spoiled := slices.Clone(s)
					spoiled[i] = x
					wantNoStaked(t, o, spoiled)
				}
			}
		}
	}
}

// TestStakeLimits has each stake at and around what it may be.
func TestStakeLimits(t *testing.T) {
	for n := 2; n <= mostOutcomes; n++ {
		o := slices.Repeat([]int{20}, n)
		for _, x := range []int{-2, -1, 0, 1, mostStake - 1, mostStake, mostStake + 1, mostStake + 2} {
			valid := x >= 0 && x <= mostStake
			for i := range n + 1 {
				s := slices.Repeat([]int{x}, n)
				if i < n {
					s = slices.Repeat([]int{mostStake}, n)
					s[i] = x
				}
				if valid {
					wantStaked(t, o, s, 20*x, sumOf(s))
				} else {
					wantNoStaked(t, o, s)
				}
			}
		}
	}
}

// TestOddsForOtherOutcomes has each two numbers of outcomes, those that there are none for among them.
func TestOddsForOtherOutcomes(t *testing.T) {
	for n := range mostOutcomes + 3 {
		for m := range mostOutcomes + 3 {
			o, q, s := slices.Repeat([]int{19}, n), slices.Repeat([]int{20}, m), slices.Repeat([]int{3}, m)
			if n == m && n >= 2 && n <= mostOutcomes {
				wantBetter(t, o, q, q)
				wantStaked(t, o, s, 57, 3*n)
			} else {
				wantNoBetter(t, o, q)
				wantNoStaked(t, o, s)
			}
		}
	}
	for _, c := range []struct {
		o []int
		q []int
	}{
		{[]int{2, 3}, []int{2, 3, 4}},
		{[]int{2, 3, 4}, []int{2, 3}},
		{[]int{5, 5, 5, 5, 5}, []int{6, 6, 6, 6, 6, 6}},
	} {
		wantNoBetter(t, c.o, c.q)
	}
}

// TestBestOfSpoiledOdds has one of both be no odds in one number, also where the other one has the greater number.
func TestBestOfSpoiledOdds(t *testing.T) {
	for _, o := range sampleOdds(1) {
		for _, spoiled := range spoiledOdds(o) {
			wantNoBetter(t, spoiled, o)
			wantNoBetter(t, spoiled, twentiesFor(o))
			wantNoBetter(t, spoiled, spoiled)
		}
	}
}

func callAllOdds(o []int, q []int, s []int) {
	impl.OddsIn(o)
	impl.OddsSum(o)
	impl.OddsSure(o)
	impl.OddsStakes(o)
	impl.OddsLeast(o, s)
	impl.OddsWins(o, s)
	impl.OddsBest(o, q)
	impl.OddsRest(o)
}

// TestOddsArgumentsStay also has any panic fail, for all kinds of arguments, valid or not.
func TestOddsArgumentsStay(t *testing.T) {
	lists := slices.Concat([][]int{nil, {1}, {0, 0}, {2, 0}, {1, 1}, {2, 3}, {21, 20}, {-1, 5}, {2, 3, 6}, {2, 3, 7}, {6, 10, 15}, {7, 7, 7, 7, 7, 7, 7}, {math.MaxInt, math.MinInt}, {math.MinInt, -1}}, sampleOdds(1))
	stakes := [][]int{nil, {0}, {0, 0}, {6, 4}, {mostStake, mostStake}, {mostStake + 1, 0}, {-1, 1}, {3, 2, 1}, {4, 4, 4, 4}, {5, 4, 3, 2, 1}, {0, 0, 0, 0, 0, 0}, {1, 1, 1, 1, 1, 1, 1}, {math.MinInt, math.MaxInt}}
	for _, first := range lists {
		for _, second := range lists {
			for _, units := range stakes {
				o, q, s := roomy(first), roomy(second), roomy(units)
				oddsBefore, othersBefore, stakesBefore := withRoom(o), withRoom(q), withRoom(s)
				callAllOdds(o, q, s)
				if !slices.Equal(oddsBefore, withRoom(o)) || !slices.Equal(othersBefore, withRoom(q)) || !slices.Equal(stakesBefore, withRoom(s)) {
					t.Fatalf("the arguments %v, %v, %v have become %v, %v, %v", first, second, units, o, q, s)
				}
			}
		}
	}
}

// TestOneListForAll has the same memory as odds, as other odds and as stakes.
func TestOneListForAll(t *testing.T) {
	for _, list := range [][]int{{2, 3}, {20, 20}, {2, 3, 7}, {1, 1, 1}, {0, 5}, {1}} {
		o := roomy(list)
		before := withRoom(o)
		callAllOdds(o, o, o)
		if !slices.Equal(before, withRoom(o)) {
			t.Errorf("the argument %v has become %v", list, o)
		}
	}
}

// oddsResults has all lists that the chapter returns for two odds.
func oddsResults(t *testing.T, o []int, q []int) [][]int {
	t.Helper()
	return [][]int{stakesOf(t, o), stakesOf(t, q), betterOf(t, o, q), betterOf(t, q, o), betterOf(t, o, o)}
}

// TestOddsResultsAreApart writes and appends to some results, which changes neither other ones nor an argument, and overwrites the arguments, which changes no result.
func TestOddsResultsAreApart(t *testing.T) {
	d := dice(470)
	for _, first := range slices.Concat([][]int{{1, 1}, {2, 3}, {3, 2, 6}}, sampleOdds(3)) {
		for _, second := range [][]int{randomOdds(&d, len(first), 1, mostOddsNumber), twentiesFor(first), slices.Repeat([]int{1}, len(first)), first} {
			want := copyRows(oddsResults(t, first, second))
			o, q := roomy(first), roomy(second)
			oddsBefore, othersBefore := withRoom(o), withRoom(q)
			kept, written, grown := oddsResults(t, o, q), oddsResults(t, o, q), oddsResults(t, o, q)
			for at := range written {
				others := copyRows(written)
				overwrite(written[at])
				others[at], written[at] = nil, nil
				if !sameRows(others, written) {
					t.Errorf("results for %v and %v share memory with each other: %v", first, second, written)
				}
				overwrite(append(grown[at], 7777))
			}
			if !sameRows(kept, want) {
				t.Errorf("results for %v and %v have become %v with others, want %v", first, second, kept, want)
			}
			if !slices.Equal(withRoom(o), oddsBefore) || !slices.Equal(withRoom(q), othersBefore) {
				t.Errorf("results for %v and %v share memory with the arguments", first, second)
			}
			overwrite(o)
			overwrite(q)
			if !sameRows(kept, want) {
				t.Errorf("results for %v and %v have become %v with the arguments, want %v", first, second, kept, want)
			}
		}
	}
}
