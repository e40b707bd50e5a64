package tests

import (
	"slices"

	"loop.example/tradecircles/impl"
)

// ordersOf has, for each number of people, all lists that have each number less than it once, in the order of lists.
var ordersOf = [][][]int{2: ordersOver(2), 3: ordersOver(3), 4: ordersOver(4), 5: ordersOver(5), 6: ordersOver(6)}

func ordersOver(n int) [][]int {
	return slices.DeleteFunc(listsOver(n, 0, n-1), func(list []int) bool { return !allDifferent(list) })
}

func countUp(n int) []int {
	return ordersOf[n][0]
}

// everyone is the set of all people.
func everyone(n int) int {
	return power(2, n) - 1
}

func isIn(set int, person int) bool {
	return set/power(2, person)%2 == 1
}

// placeOf is less for houses liked better.
func placeOf(w [][]int, person int, house int) int {
	return slices.Index(w[person], house)
}

// tradeByTelling returns the giving and, for each pointing, the set of those on a circle.
func tradeByTelling(w [][]int) ([]int, []int) {
	giving := slices.Repeat([]int{-1}, len(w))
	var leaving []int
	for slices.Contains(giving, -1) {
		best := map[int]int{}
		for i := range w {
			for _, house := range slices.Backward(w[i]) {
				if giving[i] == -1 && giving[house] == -1 {
					best[i] = house
				}
			}
		}
		set := 0
		for i := range best {
			at, back := i, false
			for range best {
				at = best[at]
				back = back || at == i
			}
			if back {
				set += power(2, i)
			}
		}
		for i, house := range best {
			if isIn(set, i) {
				giving[i] = house
			}
		}
		leaving = append(leaving, set)
	}
	return giving, leaving
}

// blocksByTelling tries all givings that leave the houses of a set of people among them.
func blocksByTelling(w [][]int, g []int, set int) bool {
	for _, h := range ordersOf[len(w)] {
		none, one := true, false
		for i := range w {
			if isIn(set, i) {
				none = none && isIn(set, h[i]) && placeOf(w, i, h[i]) <= placeOf(w, i, g[i])
				one = one || placeOf(w, i, h[i]) < placeOf(w, i, g[i])
			}
		}
		if none && one {
			return true
		}
	}
	return false
}

func blockersByTelling(w [][]int, g []int) []int {
	var sets []int
	for set := range everyone(len(w)) + 1 {
		if blocksByTelling(w, g, set) {
			sets = append(sets, set)
		}
	}
	return sets
}

// allAlike has all people wish as one list tells.
func allAlike(list []int) [][]int {
	w := make([][]int, len(list))
	for i := range w {
		w[i] = slices.Clone(list)
	}
	return w
}

func randomOrder(d *dice, n int) []int {
	return slices.Clone(ordersOf[n][d.below(len(ordersOf[n]))])
}

func randomWishes(d *dice, n int) [][]int {
	w := make([][]int, n)
	for i := range w {
		w[i] = randomOrder(d, n)
	}
	return w
}

// withBest returns wishes by which each person likes the house best that a list tells, or, for -1, any one.
func withBest(d *dice, best []int) [][]int {
	w := randomWishes(d, len(best))
	for i, house := range best {
		for house != -1 && w[i][0] != house {
			w[i] = randomOrder(d, len(best))
		}
	}
	return w
}

// someOwn returns wishes by which some people like their own house best.
func someOwn(d *dice, n int) [][]int {
	best := slices.Repeat([]int{-1}, n)
	for range 2 {
		i := d.below(n)
		best[i] = i
	}
	return withBest(d, best)
}

// likeOwnLeast returns wishes by which all people like their own houses least.
func likeOwnLeast(n int) [][]int {
	w := make([][]int, n)
	for i := range w {
		w[i] = append(slices.DeleteFunc(slices.Clone(countUp(n)), func(house int) bool { return house == i }), i)
	}
	return w
}

// everyWishes returns all wishes of n people, which are too many for more than three.
func everyWishes(n int) [][][]int {
	var all [][][]int
	for _, choice := range listsOver(n, 0, len(ordersOf[n])-1) {
		w := make([][]int, n)
		for i, k := range choice {
			w[i] = slices.Clone(ordersOf[n][k])
		}
		all = append(all, w)
	}
	return all
}

// someWishes has, for a number of people, wishes that are alike for all, with different houses liked best, with own houses liked best, and others.
func someWishes(n int, count int) [][][]int {
	d := dice(10 + n)
	all := [][][]int{allAlike(countUp(n))}
	for range count {
		all = append(all, allAlike(randomOrder(&d, n)), withBest(&d, randomOrder(&d, n)), someOwn(&d, n), randomWishes(&d, n), randomWishes(&d, n))
	}
	return all
}

// sampleWishes has all wishes of two and of three people, and samples of four and of five.
func sampleWishes(count int) [][][]int {
	all := slices.Concat(everyWishes(2), everyWishes(3))
	for n := 4; n <= impl.PeopleMax; n++ {
		all = append(all, someWishes(n, count)...)
	}
	return all
}

// likeDifferentBest reports whether no two people like the same house best.
func likeDifferentBest(w [][]int) bool {
	best := make([]int, len(w))
	for i := range w {
		best[i] = w[i][0]
	}
	return allDifferent(best)
}
