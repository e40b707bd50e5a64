package tests

import (
	"math"
	"slices"
	"testing"

	"loop.example/tradecircles/impl"
)

// spoiled returns lists that differ from a rate table in one thing.
func spoiled(a [][]int) [][][]int {
	var all [][][]int
	change := func(spoil func(b [][]int) [][]int) { all = append(all, spoil(copyRows(a))) }
	for i := range a {
		for k := range a {
			numbers := []int{0, 145, -1, -12, 1000, math.MaxInt, math.MinInt}
			if i == k {
				numbers = append(numbers, 1, 11, 13, 24, 144)
			}
			for _, x := range numbers {
				change(func(b [][]int) [][]int { b[i][k] = x; return b })
			}
		}
		change(func(b [][]int) [][]int { b[i] = b[i][:len(b)-1]; return b })
		change(func(b [][]int) [][]int { b[i] = b[i][1:]; return b })
		change(func(b [][]int) [][]int { b[i] = nil; return b })
		change(func(b [][]int) [][]int { b[i] = append(b[i], 12); return b })
		change(func(b [][]int) [][]int { return slices.Delete(b, i, i+1) })
		change(func(b [][]int) [][]int { return slices.Insert(b, i, evenTable(len(b), 12)[i]) })
	}
	return all
}

func noTables() [][][]int {
	all := [][][]int{nil, {}, {nil}, {{}}, {{12}}, {nil, nil}, {{}, {}}, {{12, 12}}, {{12}, {12}}, evenTable(1, 12), evenTable(6, 12), evenTable(7, 12), evenTable(100, 12)}
	d := dice(2)
	for n := 2; n <= impl.MoneyMax; n++ {
		all = append(all, spoiled(fairTable(&d, n))...)
		all = append(all, spoiled(randomTable(&d, n))...)
	}
	return all
}

// wantFailure has the functions fail with zero values, the arguments but the table being valid for at least two moneys.
func wantFailure(t *testing.T, a [][]int, way []int, names []int) {
	t.Helper()
	if impl.RateIn(a) || impl.RateGains(a) || impl.RateFair(a) {
		t.Errorf("RateIn, RateGains or RateFair holds for %v", a)
	}
	if n, ok := impl.RateWay(a, way); ok || n != 0 {
		t.Errorf("RateWay(%v, %v) = %d, %t", a, way, n, ok)
	}
	if n, ok := impl.RateRound(a, way); ok || n != 0 {
		t.Errorf("RateRound(%v, %v) = %d, %t", a, way, n, ok)
	}
	if n, ok := impl.RateRounds(a); ok || n != 0 {
		t.Errorf("RateRounds(%v) = %d, %t", a, n, ok)
	}
	if x, ok := impl.RateFirst(a); ok || len(x) != 0 {
		t.Errorf("RateFirst(%v) = %v, %t", a, x, ok)
	}
	for _, k := range []int{0, 1} {
		if n, ok := impl.RateBest(a, 0, k); ok || n != 0 {
			t.Errorf("RateBest(%v, 0, %d) = %d, %t", a, k, n, ok)
		}
		if n, ok := impl.RateStep(a, 0, k); ok || n != 0 {
			t.Errorf("RateStep(%v, 0, %d) = %d, %t", a, k, n, ok)
		}
	}
	if b, ok := impl.RateTurn(a); ok || len(b) != 0 {
		t.Errorf("RateTurn(%v) = %v, %t", a, b, ok)
	}
	if b, ok := impl.RateNamed(a, names); ok || len(b) != 0 {
		t.Errorf("RateNamed(%v, %v) = %v, %t", a, names, b, ok)
	}
}

func TestNoTables(t *testing.T) {
	for _, a := range noTables() {
		names := make([]int, len(a))
		for i := range names {
			names[i] = i
		}
		wantFailure(t, a, []int{0, 1}, names)
		wantFailure(t, a, []int{0, 1}, []int{0, 1})
		wantFailure(t, a, nil, nil)
	}
}

// TestAnyLists tries all lists of up to one number too many, with numbers that are no moneys on both sides.
func TestAnyLists(t *testing.T) {
	d := dice(3)
	for n := 2; n <= impl.MoneyMax; n++ {
		a := randomTable(&d, n)
		for length := range n + 2 {
			for _, list := range listsOver(length, -1, n) {
				moneys := allWithin(list, 0, n-1) && allDifferent(list)
				isWay := moneys && length >= 2
				isRound := isWay && list[0] == slices.Min(list)
				if value, ok := impl.RateWay(a, list); ok != isWay || !ok && value != 0 {
					t.Errorf("RateWay(%v, %v) = %d, %t", a, list, value, ok)
				}
				if value, ok := impl.RateRound(a, list); ok != isRound || !ok && value != 0 {
					t.Errorf("RateRound(%v, %v) = %d, %t", a, list, value, ok)
				}
				if b, ok := impl.RateNamed(a, list); ok != (moneys && length == n) || !ok && len(b) != 0 {
					t.Errorf("RateNamed(%v, %v) = %v, %t", a, list, b, ok)
				}
			}
		}
	}
}

// farNumbers are no moneys of any table.
var farNumbers = []int{math.MinInt, math.MinInt + 1, -64, -6, -1, 5, 6, 31, 32, 63, 64, 65, 1 << 32, math.MaxInt - 1, math.MaxInt}

func TestFarNumbersInLists(t *testing.T) {
	a := fiveMix
	for _, x := range farNumbers {
		for place := range 5 {
			list := []int{0, 1, 2, 3, 4}
			list[place] = x
			if value, ok := impl.RateWay(a, list); ok || value != 0 {
				t.Errorf("RateWay with %v = %d, %t", list, value, ok)
			}
			if value, ok := impl.RateRound(a, list); ok || value != 0 {
				t.Errorf("RateRound with %v = %d, %t", list, value, ok)
			}
			if b, ok := impl.RateNamed(a, list); ok || len(b) != 0 {
				t.Errorf("RateNamed with %v = %v, %t", list, b, ok)
			}
		}
	}
	long := make([]int, 100000)
	if _, ok := impl.RateWay(a, long); ok {
		t.Error("RateWay succeeds for a long list")
	}
}

func TestOtherMoneys(t *testing.T) {
	d := dice(4)
	for n := 2; n <= impl.MoneyMax; n++ {
		a := randomTable(&d, n)
		for _, x := range append([]int{n, n + 1}, farNumbers...) {
			for _, pair := range [][2]int{{x, 0}, {0, x}, {x, x}, {x, n - 1}, {n - 1, x}} {
				if value, ok := impl.RateBest(a, pair[0], pair[1]); ok || value != 0 {
					t.Errorf("RateBest(%v, %v) = %d, %t", a, pair, value, ok)
				}
				if value, ok := impl.RateStep(a, pair[0], pair[1]); ok || value != 0 {
					t.Errorf("RateStep(%v, %v) = %d, %t", a, pair, value, ok)
				}
			}
		}
	}
}

// TestFirstWithoutRounds has RateFirst fail for tables that are valid.
func TestFirstWithoutRounds(t *testing.T) {
	for _, a := range [][][]int{twoFair, twoLose, evenTable(5, 12), evenTable(5, 1)} {
		if ring, ok := impl.RateFirst(a); ok || len(ring) != 0 {
			t.Errorf("RateFirst(%v) = %v, %t", a, ring, ok)
		}
	}
}

func callAllRates(a [][]int, list []int, i int, k int) {
	impl.RateIn(a)
	impl.RateWay(a, list)
	impl.RateRound(a, list)
	impl.RateGains(a)
	impl.RateRounds(a)
	impl.RateFirst(a)
	impl.RateBest(a, i, k)
	impl.RateStep(a, i, k)
	impl.RateFair(a)
	impl.RateTurn(a)
	impl.RateNamed(a, list)
}

// TestArgumentsStay also has any panic fail, for all kinds of arguments, valid or not.
func TestArgumentsStay(t *testing.T) {
	lists := [][]int{nil, {0}, {0, 1}, {1, 0}, {0, 0}, {0, 1, 2, 3, 4}, {4, 3, 2, 1, 0}, {0, 1, 2, 3, 4, 5}, {-1, 0}, {math.MaxInt, math.MinInt}}
	tables := append(noTables(), twoGain, twoFair, threeMix, fiveMix)
	for _, rows := range tables {
		for _, numbers := range lists {
			a, list := roomyRows(rows), roomy(numbers)
			rowsBefore, listBefore := rowsWithRoom(a), withRoom(list)
			for _, pair := range [][2]int{{0, 1}, {1, 1}, {-1, 0}, {0, 5}, {math.MinInt, math.MaxInt}} {
				callAllRates(a, list, pair[0], pair[1])
			}
			if !sameRows(rowsBefore, rowsWithRoom(a)) || !slices.Equal(listBefore, withRoom(list)) {
				t.Fatalf("the arguments %v, %v have become %v, %v", rows, numbers, a, list)
			}
		}
	}
}

// TestResultsAreApart overwrites one result after the other, and what stands behind its end.
func TestResultsAreApart(t *testing.T) {
	for _, rows := range [][][]int{twoGain, threeMix, fiveMix, evenTable(4, 13)} {
		a, names := roomyRows(rows), roomy([]int{0, 1, 2, 3, 4}[:len(rows)])
		ring, _ := impl.RateFirst(a)
		ringAgain, _ := impl.RateFirst(a)
		ringBefore := slices.Clone(ring)
		turned, _ := impl.RateTurn(a)
		turnedAgain, _ := impl.RateTurn(a)
		turnedBefore := copyRows(turned)
		named, _ := impl.RateNamed(a, names)
		namedAgain, _ := impl.RateNamed(a, names)
		rowsBefore, namesBefore := rowsWithRoom(a), withRoom(names)
		overwrite(ring)
		overwriteRows(turned)
		overwriteRows(named)
		if !slices.Equal(ringAgain, ringBefore) || !sameRows(turnedAgain, turnedBefore) || !sameRows(namedAgain, rows) {
			t.Errorf("results for %v share memory", rows)
		}
		if !sameRows(rowsWithRoom(a), rowsBefore) || !slices.Equal(withRoom(names), namesBefore) {
			t.Errorf("results for %v share memory with the arguments", rows)
		}
		overwriteRows(a)
		overwrite(names)
		if !slices.Equal(ringAgain, ringBefore) || !sameRows(turnedAgain, turnedBefore) || !sameRows(namedAgain, rows) {
			t.Errorf("results for %v share memory with the arguments", rows)
		}
		if again, _ := impl.RateTurn(rows); !sameRows(again, turnedBefore) {
			t.Errorf("RateTurn(%v) has become %v", rows, again)
		}
	}
}

func TestRowsOfResultsAreApart(t *testing.T) {
	for _, rows := range [][][]int{twoGain, threeMix, fiveMix} {
		turned, _ := impl.RateTurn(rows)
		named, _ := impl.RateNamed(rows, []int{0, 1, 2, 3, 4}[:len(rows)])
		for _, b := range [][][]int{turned, named} {
			for i := range b {
				before := copyRows(b)
				overwrite(b[i])
				before[i] = b[i]
				if !sameRows(before, b) {
					t.Errorf("the row %d of a result for %v shares memory with another row", i, rows)
				}
			}
		}
	}
}
