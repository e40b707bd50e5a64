package tests

import (
	"slices"

	"loop.example/tradecircles/impl"
)

// evenTable has 12 for each money itself and another number for all else.
func evenTable(n int, rate int) [][]int {
	a := make([][]int, n)
	for i := range a {
		a[i] = slices.Repeat([]int{rate}, n)
		a[i][i] = impl.RateBase
	}
	return a
}

func randomTable(d *dice, n int) [][]int {
	a := evenTable(n, 1)
	for i := range a {
		for k := range a {
			if i != k {
				a[i][k] = 1 + d.below(144)
			}
		}
	}
	return a
}

// fairTable takes prices that divide 12, for each quotient of them is then a number of twelfths from 1 to 144.
func fairTable(d *dice, n int) [][]int {
	divisors := []int{1, 2, 3, 4, 6, 12}
	prices := make([]int, n)
	for i := range prices {
		prices[i] = divisors[d.below(len(divisors))]
	}
	a := evenTable(n, 1)
	for i := range a {
		for k := range a {
			a[i][k] = 12 * prices[i] / prices[k]
		}
	}
	return a
}

// moved returns a table in which some numbers are greater by one and some are less by one, each with odds of one to a number.
func moved(d *dice, a [][]int, seldom int) [][]int {
	b := copyRows(a)
	for i := range b {
		for k := range b {
			if i != k && d.below(seldom) == 0 {
				b[i][k] = min(max(b[i][k]+1-2*d.below(2), 1), 144)
			}
		}
	}
	return b
}

// lowered returns a table in which some numbers are less: of a fair table, one without a round that gains.
func lowered(d *dice, a [][]int) [][]int {
	b := copyRows(a)
	for i := range b {
		for k := range b {
			if i != k && d.below(2) == 0 {
				b[i][k] = 1 + d.below(b[i][k])
			}
		}
	}
	return b
}

// sampleTables has tables with rounds that gain, tables without any, and fair ones, for each number of moneys.
func sampleTables() [][][]int {
	d := dice(1)
	var all [][][]int
	for n := 2; n <= impl.MoneyMax; n++ {
		for _, rate := range []int{1, 11, 12, 13, 144} {
			all = append(all, evenTable(n, rate))
		}
		for range 40 {
			fair := fairTable(&d, n)
			less := lowered(&d, fair)
			all = append(all, randomTable(&d, n), fair, less, moved(&d, fair, n*n), moved(&d, fair, 2), moved(&d, less, n))
		}
	}
	return all
}

// waysOver returns all ways of n moneys, in the order of lists.
func waysOver(n int) [][]int {
	var all [][]int
	for length := 2; length <= n; length++ {
		for _, list := range listsOver(length, 0, n-1) {
			if allDifferent(list) {
				all = append(all, list)
			}
		}
	}
	slices.SortFunc(all, slices.Compare)
	return all
}

// roundsOver returns all rounds of n moneys, in the order of lists.
func roundsOver(n int) [][]int {
	return slices.DeleteFunc(waysOver(n), func(list []int) bool { return list[0] != slices.Min(list) })
}

// wayWorth goes along a way one change after the other, beginning with a unit in the parts that are told.
func wayWorth(a [][]int, way []int) int {
	have := power(12, len(a)-1)
	for i := 1; i < len(way); i++ {
		have = have * a[way[i-1]][way[i]] / 12
	}
	return have
}

func roundWorth(a [][]int, ring []int) int {
	return wayWorth(a, ring) * a[ring[len(ring)-1]][ring[0]]
}

func roundsThatGain(a [][]int) [][]int {
	var all [][]int
	for _, ring := range roundsOver(len(a)) {
		if roundWorth(a, ring) > power(12, len(a)) {
			all = append(all, ring)
		}
	}
	return all
}

func bestByTrying(a [][]int, i int, k int) int {
	if i == k {
		return power(12, len(a)-1)
	}
	best := 0
	for _, way := range waysOver(len(a)) {
		if way[0] == i && way[len(way)-1] == k {
			best = max(best, wayWorth(a, way))
		}
	}
	return best
}

// stepByTrying tries all moneys in between.
func stepByTrying(a [][]int, i int, k int) int {
	best := 0
	for _, between := range listsOver(len(a)-2, 0, len(a)-1) {
		product, at := 1, i
		for _, next := range append(between, k) {
			product *= a[at][next]
			at = next
		}
		best = max(best, product)
	}
	return best
}
