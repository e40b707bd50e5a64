package tests

import "slices"

// dice gives the same numbers in each run, so that a test that fails once fails again.
type dice uint64

func (d *dice) below(n int) int {
	*d = *d*6364136223846793005 + 1442695040888963407
	return int(uint64(*d)>>33) % n
}

// power is for small exponents.
func power(base int, exponent int) int {
	product := 1
	for range exponent {
		product *= base
	}
	return product
}

// listsOver returns all lists of a length of numbers from least to most, in the order of lists.
func listsOver(length int, least int, most int) [][]int {
	count := most - least + 1
	all := make([][]int, 0, power(count, length))
	for code := range power(count, length) {
		list := make([]int, length)
		for place := length - 1; place >= 0; place-- {
			list[place] = least + code%count
			code /= count
		}
		all = append(all, list)
	}
	return all
}

// allDifferent compares each two places, for it must not go wrong in the way of the program.
func allDifferent(list []int) bool {
	for i := range list {
		for k := range i {
			if list[i] == list[k] {
				return false
			}
		}
	}
	return true
}

func allWithin(list []int, least int, most int) bool {
	for _, x := range list {
		if x < least || x > most {
			return false
		}
	}
	return true
}

func copyRows(a [][]int) [][]int {
	rows := make([][]int, len(a))
	for i, row := range a {
		rows[i] = slices.Clone(row)
	}
	return rows
}

func sameRows(a [][]int, b [][]int) bool {
	return slices.EqualFunc(a, b, func(x []int, y []int) bool { return slices.Equal(x, y) })
}

// roomy copies a list so that writing behind its end would be seen.
func roomy(list []int) []int {
	const behind = 3
	whole := make([]int, len(list)+behind)
	for i := range whole {
		whole[i] = 7777 + i
	}
	copy(whole, list)
	return whole[:len(list)]
}

func roomyRows(a [][]int) [][]int {
	whole := make([][]int, 0, len(a)+1)
	for _, row := range a {
		whole = append(whole, roomy(row))
	}
	return append(whole, roomy([]int{12, 12}))[:len(a)]
}

// withRoom returns what a list has and what stands behind its end.
func withRoom(list []int) []int {
	return slices.Clone(list[:cap(list)])
}

func rowsWithRoom(a [][]int) [][]int {
	var whole [][]int
	for _, row := range a[:cap(a)] {
		whole = append(whole, withRoom(row))
	}
	return whole
}

// overwrite also changes what stands behind the end of a list.
func overwrite(list []int) {
	for i := range list[:cap(list)] {
		list[:cap(list)][i] = -99
	}
}

func overwriteRows(a [][]int) {
	for _, row := range a {
		overwrite(row)
	}
	for i := range a[:cap(a)] {
		a[:cap(a)][i] = nil
	}
}
