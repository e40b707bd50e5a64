package tests

import (
	"slices"

	"loop.example/tradecircles/impl"
)

const mostPrice = 1000000000

func fitsByTelling(a [][]int, p []int) bool {
	for i := range a {
		for k := range a {
			if a[i][k]*p[k] != 12*p[i] {
				return false
			}
		}
	}
	return true
}

func holdsByTelling(a [][]int, p []int) bool {
	for i := range a {
		for k := range a {
			if a[i][k]*p[k] > 12*p[i] {
				return false
			}
		}
	}
	return true
}

// withoutDivisor is for products of numbers up to 144: they have no prime divisors above.
func withoutDivisor(list []int) []int {
	least := slices.Clone(list)
	for divisor := 2; divisor <= 144; divisor++ {
		for allDividedBy(least, divisor) {
			for i := range least {
				least[i] /= divisor
			}
		}
	}
	return least
}

func allDividedBy(list []int, divisor int) bool {
	for _, x := range list {
		if x%divisor != 0 {
			return false
		}
	}
	return true
}

// tableByTrying tries all numbers that a rate table may have at each place.
func tableByTrying(p []int) ([][]int, bool) {
	a := make([][]int, len(p))
	for i := range p {
		a[i] = make([]int, len(p))
		for k := range p {
			for rate := 1; rate <= 144; rate++ {
				if rate*p[k] == 12*p[i] {
					a[i][k] = rate
				}
			}
			if a[i][k] == 0 {
				return nil, false
			}
		}
	}
	return a, true
}

func allTimes(list []int, factor int) []int {
	product := slices.Clone(list)
	for i := range product {
		product[i] *= factor
	}
	return product
}

func inProportion(list []int, other []int) bool {
	for i := range list {
		if list[i]*other[0] != other[i]*list[0] {
			return false
		}
	}
	return true
}

// firstColumn tells what each money gives of the money 0.
func firstColumn(a [][]int) []int {
	column := make([]int, len(a))
	for i := range a {
		column[i] = a[i][0]
	}
	return column
}

// stepsBack tells what n - 1 changes from each money to the money 0 give at most.
func stepsBack(a [][]int) []int {
	steps := make([]int, len(a))
	for i := range a {
		steps[i] = stepByTrying(a, i, 0)
	}
	return steps
}

func randomPrices(d *dice, n int, most int) []int {
	p := make([]int, n)
	for i := range p {
		p[i] = 1 + d.below(most)
	}
	return p
}

// priced is a rate table and prices for as many moneys.
type priced struct {
	a [][]int
	p []int
}

// samplePriced has, for each sample table, prices that fit it or hold it if any do, with a common divisor and without one, and other prices.
func samplePriced() []priced {
	d := dice(5)
	var all []priced
	for _, a := range sampleTables() {
		column, steps := withoutDivisor(firstColumn(a)), withoutDivisor(stepsBack(a))
		near := slices.Clone(steps)
		near[d.below(len(near))]++
		for _, p := range [][]int{
			column,
			allTimes(column, 6),
			allTimes(column, mostPrice/slices.Max(column)),
			steps,
			allTimes(steps, 2),
			near,
			slices.Repeat([]int{7}, len(a)),
			randomPrices(&d, len(a), 12),
			randomPrices(&d, len(a), mostPrice),
		} {
			all = append(all, priced{a, p})
		}
	}
	return all
}

// samplePrices also has prices that no table has.
func samplePrices() [][]int {
	d := dice(6)
	var all [][]int
	for n := 2; n <= impl.MoneyMax; n++ {
		for _, x := range []int{1, 1000000, 1000001, mostPrice} {
			all = append(all, slices.Repeat([]int{x}, n))
		}
		for range 60 {
			p := withoutDivisor(firstColumn(fairTable(&d, n)))
			all = append(all, p, allTimes(p, 1+d.below(1000)), randomPrices(&d, n, 4), randomPrices(&d, n, 24), randomPrices(&d, n, 1000000), randomPrices(&d, n, mostPrice))
		}
	}
	return all
}
