package tests

import (
	"slices"
	"testing"

	"loop.example/tradecircles/impl"
)

// turnedTable is for tables of which it is known that they are.
func turnedTable(t *testing.T, a [][]int) [][]int {
	t.Helper()
	turned, ok := impl.RateTurn(a)
	if !ok || !impl.RateIn(turned) {
		t.Fatalf("RateTurn(%v) = %v, %t", a, turned, ok)
	}
	return turned
}

func bestRate(t *testing.T, a [][]int, i int, k int) int {
	t.Helper()
	value, ok := impl.RateBest(a, i, k)
	if !ok {
		t.Fatalf("RateBest(%v, %d, %d) fails", a, i, k)
	}
	return value
}

func stepRate(t *testing.T, a [][]int, i int, k int) int {
	t.Helper()
	value, ok := impl.RateStep(a, i, k)
	if !ok {
		t.Fatalf("RateStep(%v, %d, %d) fails", a, i, k)
	}
	return value
}

func TestPromise1(t *testing.T) {
	for _, a := range sampleTables() {
		turnedTable(t, a)
		names := []int{0, 1, 2, 3, 4}[:len(a)]
		named, ok := impl.RateNamed(a, names)
		if !ok || !sameRows(named, a) {
			t.Errorf("RateNamed(%v, %v) = %v, %t", a, names, named, ok)
		}
	}
}

func TestPromise2(t *testing.T) {
	for _, a := range sampleTables() {
		turned := turnedTable(t, a)
		for _, way := range waysOver(len(a)) {
			value, ok := impl.RateWay(a, way)
			wantNumber(t, "RateWay", value, ok, wayWorth(a, way))
			if value > bestRate(t, a, way[0], way[len(way)-1]) {
				t.Errorf("RateWay(%v, %v) = %d is more than RateBest", a, way, value)
			}
			slices.Reverse(way)
			back, ok := impl.RateWay(turned, way)
			wantNumber(t, "RateWay backwards", back, ok, value)
		}
	}
}

func TestPromise3(t *testing.T) {
	for _, a := range sampleTables() {
		unit := power(12, len(a))
		for _, ring := range roundsOver(len(a)) {
			value, ok := impl.RateRound(a, ring)
			way, wayOk := impl.RateWay(a, ring)
			if !ok || !wayOk || value != way*a[ring[len(ring)-1]][ring[0]] {
				t.Errorf("RateRound(%v, %v) = %d, %t, RateWay = %d, %t", a, ring, value, ok, way, wayOk)
			}
			if value > unit && !impl.RateGains(a) {
				t.Errorf("RateGains(%v) does not hold, but %v gains", a, ring)
			}
			if value != unit && impl.RateFair(a) {
				t.Errorf("RateFair(%v) holds, but %v is not a unit", a, ring)
			}
		}
	}
}

func TestPromise4(t *testing.T) {
	tried := 0
	for _, a := range sampleTables() {
		if !impl.RateGains(a) {
			continue
		}
		tried++
		if count, ok := impl.RateRounds(a); !ok || count < 1 {
			t.Errorf("RateRounds(%v) = %d, %t", a, count, ok)
		}
		if !impl.RateGains(turnedTable(t, a)) {
			t.Errorf("RateGains does not hold for RateTurn(%v)", a)
		}
	}
	if tried == 0 {
		t.Error("RateGains never holds")
	}
}

func TestPromise5(t *testing.T) {
	with, without := 0, 0
	for _, a := range sampleTables() {
		count, ok := impl.RateRounds(a)
		turned, turnedOk := impl.RateRounds(turnedTable(t, a))
		if !ok || !turnedOk || count != turned {
			t.Errorf("RateRounds(%v) = %d, %t, of RateTurn %d, %t", a, count, ok, turned, turnedOk)
		}
		_, found := impl.RateFirst(a)
		if found != (count > 0) {
			t.Errorf("RateRounds(%v) = %d, RateFirst succeeds: %t", a, count, found)
		}
		if found {
			with++
		} else {
			without++
		}
	}
	if with == 0 || without == 0 {
		t.Errorf("RateFirst succeeds %d times and fails %d times", with, without)
	}
}

func TestPromise6(t *testing.T) {
	tried := 0
	for _, a := range sampleTables() {
		ring, ok := impl.RateFirst(a)
		if !ok {
			continue
		}
		tried++
		value, ok := impl.RateRound(a, ring)
		if !ok || value <= power(12, len(a)) || ring[0] != slices.Min(ring) {
			t.Errorf("RateFirst(%v) = %v, RateRound of it = %d, %t", a, ring, value, ok)
		}
	}
	if tried == 0 {
		t.Error("RateFirst never succeeds")
	}
}

func TestPromise7(t *testing.T) {
	for _, a := range sampleTables() {
		for i := range a {
			for k := range a {
				atOnce := a[i][k] * power(12, len(a)-2)
				if value := bestRate(t, a, i, k); value < atOnce || value > stepRate(t, a, i, k) {
					t.Errorf("RateBest(%v, %d, %d) = %d, at once %d, RateStep %d", a, i, k, value, atOnce, stepRate(t, a, i, k))
				}
			}
		}
	}
}

func TestPromise8(t *testing.T) {
	more, same := 0, 0
	for _, a := range sampleTables() {
		gains := impl.RateGains(a)
		for i := range a {
			for k := range a {
				value, least := stepRate(t, a, i, k), bestRate(t, a, i, k)
				if value < least || !gains && value != least {
					t.Errorf("RateStep(%v, %d, %d) = %d, RateBest %d, RateGains %t", a, i, k, value, least, gains)
				}
				if value > least {
					more++
				}
				if !gains {
					same++
				}
			}
		}
	}
	if more == 0 || same == 0 {
		t.Errorf("RateStep is more than RateBest %d times; no round gains %d times", more, same)
	}
}

func TestPromise9(t *testing.T) {
	for _, a := range sampleTables() {
		turned := turnedTable(t, a)
		if !sameRows(turnedTable(t, turned), a) {
			t.Errorf("RateTurn of RateTurn(%v) = %v", a, turnedTable(t, turned))
		}
		if bestRate(t, turned, 0, 1) != bestRate(t, a, 1, 0) {
			t.Errorf("RateBest(RateTurn(%v), 0, 1) = %d, want %d", a, bestRate(t, turned, 0, 1), bestRate(t, a, 1, 0))
		}
	}
}

func TestPromise10(t *testing.T) {
	for _, a := range sampleTables() {
		for _, names := range waysOver(len(a)) {
			if len(names) != len(a) {
				continue
			}
			named, ok := impl.RateNamed(a, names)
			if !ok || !impl.RateIn(named) {
				t.Fatalf("RateNamed(%v, %v) = %v, %t", a, names, named, ok)
			}
			if bestRate(t, named, names[0], names[1]) != bestRate(t, a, 0, 1) {
				t.Errorf("RateBest of RateNamed(%v, %v) = %d, want %d", a, names, bestRate(t, named, names[0], names[1]), bestRate(t, a, 0, 1))
			}
			count, _ := impl.RateRounds(a)
			renamed, ok := impl.RateRounds(named)
			wantNumber(t, "RateRounds of RateNamed", renamed, ok, count)
			for i := range a {
				for k := range a {
					if named[names[i]][names[k]] != a[i][k] {
						t.Errorf("RateNamed(%v, %v) = %v", a, names, named)
					}
				}
			}
		}
	}
}

func TestPromise11(t *testing.T) {
	tried := 0
	for _, a := range sampleTables() {
		if !impl.RateFair(a) {
			continue
		}
		tried++
		if impl.RateGains(a) || !impl.RateFair(turnedTable(t, a)) {
			t.Errorf("RateFair(%v) holds, RateGains %t, RateFair of RateTurn %t", a, impl.RateGains(a), impl.RateFair(turnedTable(t, a)))
		}
		for i := range a {
			for k := range a {
				if a[i][k]*a[k][i] != 144 {
					t.Errorf("RateFair(%v) holds, but not for %d and %d", a, i, k)
				}
			}
		}
	}
	if tried == 0 {
		t.Error("RateFair never holds")
	}
}
