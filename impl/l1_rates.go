package impl

import (
	"iter"
	"slices"
)

// MoneyMax is the greatest number of moneys.
const MoneyMax = 5

// RateBase is the number of parts that a unit of money has.
const RateBase = 12

// rateMost is the greatest number that a rate table may have.
const rateMost = 144

// rateTable has 0, which no rate is, where there is no money: so the array alone tells how many moneys there are, and == compares whole tables.
type rateTable [MoneyMax][MoneyMax]int

func readRates(a [][]int) (rateTable, bool) {
	n := len(a)
	if n < 2 || n > MoneyMax {
		return rateTable{}, false
	}
	var t rateTable
	for i, row := range a {
		if len(row) != n {
			return rateTable{}, false
		}
		for k, rate := range row {
			if rate < 1 || rate > rateMost || i == k && rate != RateBase {
				return rateTable{}, false
			}
			t[i][k] = rate
		}
	}
	return t, true
}

func (t rateTable) size() int {
	n := 0
	for n < MoneyMax && t[n][n] != 0 {
		n++
	}
	return n
}

func (t rateTable) has(money int) bool {
	return money >= 0 && money < t.size()
}

func (t rateTable) hasWay(list []int) bool {
	n := t.size()
	return len(list) >= 2 && len(list) <= n && areDifferent(n, list)
}

func (t rateTable) hasRound(list []int) bool {
	return t.hasWay(list) && list[0] == slices.Min(list)
}

// areDifferent reports whether a list has numbers from 0 to n - 1 alone, none of them twice.
func areDifferent(n int, list []int) bool {
	seen := 0
	for _, x := range list {
		if x < 0 || x >= n || seen>>x&1 == 1 {
			return false
		}
		seen |= 1 << x
	}
	return true
}

func unitAfter(changes int) int {
	parts := 1
	for range changes {
		parts *= RateBase
	}
	return parts
}

// value is told in the parts of as many changes as given: a shorter list counts as if some money were changed into itself for the others.
func (t rateTable) value(list []int, changes int) int {
	value := unitAfter(changes - len(list) + 1)
	for i, money := range list[1:] {
		value *= t[list[i]][money]
	}
	return value
}

func (t rateTable) wayValue(way []int) int {
	return t.value(way, t.size()-1)
}

func (t rateTable) roundValue(ring []int) int {
	closed := append(slices.Clone(ring), ring[0])
	return t.value(closed, t.size())
}

func (t rateTable) gainsBy(ring []int) bool {
	return t.roundValue(ring) > unitAfter(t.size())
}

// longer yields a list and all that go on behind it with other moneys from least on, and reports whether more are wanted. A list is yielded ahead of those that go on behind it, as the order of lists has it, and is copied, for the next ones take its memory.
func longer(n int, least int, list []int, yield func([]int) bool) bool {
	if len(list) >= 2 && !yield(slices.Clone(list)) {
		return false
	}
	for next := least; next < n; next++ {
		if !slices.Contains(list, next) && !longer(n, least, append(list, next), yield) {
			return false
		}
	}
	return true
}

// waysFrom gives all ways of n moneys that begin with one of them, in the order of lists.
func waysFrom(n int, first int) iter.Seq[[]int] {
	return func(yield func([]int) bool) {
		longer(n, 0, []int{first}, yield)
	}
}

// rounds gives all rounds of n moneys, in the order of lists.
func rounds(n int) iter.Seq[[]int] {
	return func(yield func([]int) bool) {
		for first := range n {
			if !longer(n, first+1, []int{first}, yield) {
				return
			}
		}
	}
}

// gaining gives all rounds that gain, in the order of lists.
func (t rateTable) gaining() iter.Seq[[]int] {
	return func(yield func([]int) bool) {
		for ring := range rounds(t.size()) {
			if t.gainsBy(ring) && !yield(ring) {
				return
			}
		}
	}
}

// change keeps only the most that one may have of each money, for all that comes later is in proportion to it.
func (t rateTable) change(have [MoneyMax]int) [MoneyMax]int {
	var most [MoneyMax]int
	for from, units := range have {
		for to, rate := range t[from] {
			most[to] = max(most[to], units*rate)
		}
	}
	return most
}

// finer tells the table in the parts of two changes, as by does.
func (t rateTable) finer() rateTable {
	for i := range t {
		for k := range t[i] {
			t[i][k] *= RateBase
		}
	}
	return t
}

// by tells what one gets for a unit by way of a money, in the parts of two changes.
func (t rateTable) by(money int) rateTable {
	var through rateTable
	for i := range t {
		for k := range t {
			through[i][k] = t[i][money] * t[money][k]
		}
	}
	return through
}

func (t rateTable) turned() rateTable {
	var turned rateTable
	for i, row := range t {
		for k, rate := range row {
			turned[k][i] = rate
		}
	}
	return turned
}

func (t rateTable) named(names []int) rateTable {
	var named rateTable
	for i, x := range names {
		for k, y := range names {
			named[x][y] = t[i][k]
		}
	}
	return named
}

// list copies each row by itself, so that no two rows are parts of one array.
func (t rateTable) list() [][]int {
	n := t.size()
	a := make([][]int, n)
	for i := range a {
		a[i] = slices.Clone(t[i][:n])
	}
	return a
}

// RateIn reports whether a list is a rate table.
func RateIn(a [][]int) bool {
	_, ok := readRates(a)
	return ok
}

// RateWay returns the value of a way, and true.
func RateWay(a [][]int, way []int) (int, bool) {
	t, ok := readRates(a)
	if !ok || !t.hasWay(way) {
		return 0, false
	}
	return t.wayValue(way), true
}

// RateRound returns the value of a round, and true.
func RateRound(a [][]int, ring []int) (int, bool) {
	t, ok := readRates(a)
	if !ok || !t.hasRound(ring) {
		return 0, false
	}
	return t.roundValue(ring), true
}

// RateGains reports whether some round of a rate table gains.
func RateGains(a [][]int) bool {
	_, ok := RateFirst(a)
	return ok
}

// RateRounds returns the number of rounds that gain, and true.
func RateRounds(a [][]int) (int, bool) {
	t, ok := readRates(a)
	if !ok {
		return 0, false
	}
	count := 0
	for range t.gaining() {
		count++
	}
	return count, true
}

// RateFirst returns the first round that gains, in the order of lists, and true.
func RateFirst(a [][]int) ([]int, bool) {
	t, ok := readRates(a)
	if !ok {
		return nil, false
	}
	for ring := range t.gaining() {
		return ring, true
	}
	return nil, false
}

// RateBest returns the greatest value of a way from one money to another one, found by trying all ways, and true.
func RateBest(a [][]int, i int, k int) (int, bool) {
	t, ok := readRates(a)
	if !ok || !t.has(i) || !t.has(k) {
		return 0, false
	}
	n := t.size()
	if i == k {
		return unitAfter(n - 1), true
	}
	best := 0
	for way := range waysFrom(n, i) {
		if way[len(way)-1] == k {
			best = max(best, t.wayValue(way))
		}
	}
	return best, true
}

// RateStep returns the greatest value of n - 1 changes behind each other, from one money to another one, each one to any money, to itself among them, and true.
func RateStep(a [][]int, i int, k int) (int, bool) {
	t, ok := readRates(a)
	if !ok || !t.has(i) || !t.has(k) {
		return 0, false
	}
	var have [MoneyMax]int
	have[i] = 1
	for range t.size() - 1 {
		have = t.change(have)
	}
	return have[k], true
}

// RateFair reports whether each round of a rate table has just a unit as its value.
func RateFair(a [][]int) bool {
	t, ok := readRates(a)
	// If all rounds are a unit, so are those through the money 0, and going by it changes nothing. If going by it changes nothing, each number is what its row gives of the money 0 over what its column gives of it, and these cancel out along a round.
	return ok && t.by(0) == t.finer()
}

// RateTurn returns the rate table with rows and columns exchanged, and true.
func RateTurn(a [][]int) ([][]int, bool) {
	t, ok := readRates(a)
	if !ok {
		return nil, false
	}
	return t.turned().list(), true
}

// RateNamed returns the rate table in which each money i is called by the number that a list has at the place i, from 0 on, this having each money once, and true.
func RateNamed(a [][]int, p []int) ([][]int, bool) {
	t, ok := readRates(a)
	if !ok || len(p) != t.size() || !areDifferent(len(p), p) {
		return nil, false
	}
	return t.named(p).list(), true
}
