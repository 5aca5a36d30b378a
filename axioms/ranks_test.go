package axioms_test

import (
	"math"
	"slices"
	"testing"

	"rota/api"
	"rota/axioms"
	"rota/probe"
)

// rightRanks: each from 0 to how many elements the set has, no less than that
// of a set within it, and two sets have together what they have joined and met,
// or more.
func rightRanks(l []int) bool {
	for a := range l {
		if l[a] < 0 || l[a] > len(probe.Elements(a)) {
			return false
		}
		for b := range l {
			if a&b == a && l[a] > l[b] || l[a|b]+l[a&b] > l[a]+l[b] {
				return false
			}
		}
	}
	return true
}

func holdRanks(t *testing.T, n int, l []int) {
	t.Helper()
	m, e := axioms.OfRanks(n, l)
	if !rightRanks(l) {
		if e != api.ErrShape || m.N != 0 || len(m.Bases) != 0 {
			t.Errorf("OfRanks(%d, %v) = %v, %d, want %d", n, l, m, e, api.ErrShape)
		}
		return
	}
	told := make([]int, 1<<n)
	for s := range told {
		told[s] = probe.Rank(m, s)
	}
	if e != api.OK || m.N != n || wantCheck(m.Bases) != api.OK || !slices.Equal(told, l) {
		t.Errorf("OfRanks(%d, %v) = %v, %d", n, l, m, e)
	}
}

func TestOfRanksSmall(t *testing.T) {
	var walk func(n int, l []int, least, most int)
	walk = func(n int, l []int, least, most int) {
		if len(l) == 1<<n {
			holdRanks(t, n, l)
			return
		}
		for r := least; r <= most; r++ {
			walk(n, append(slices.Clip(l), r), least, most)
		}
	}
	for n := range 3 {
		walk(n, nil, -2, 4)
	}
	walk(3, []int{0}, 0, 3)
	walk(3, []int{1}, 1, 2)
}

func TestOfRanksTwice(t *testing.T) {
	for _, m := range probe.Matroids() {
		l, _ := axioms.Ranks(m)
		if got, e := axioms.OfRanks(m.N, l); e != api.OK || got.N != m.N || !slices.Equal(got.Bases, m.Bases) {
			t.Errorf("OfRanks(%d, %v) = %v, %d, want %v", m.N, l, got, e, m)
		}
	}
}

func TestOfRanksNearlyRight(t *testing.T) {
	for _, m := range probe.Matroids() {
		l, _ := axioms.Ranks(m)
		for s := 0; s < len(l); s += m.N*m.N/8 + 1 {
			for _, by := range []int{-1, 1, math.MaxInt - 3, math.MinInt} {
				l[s] += by
				holdRanks(t, m.N, l)
				l[s] -= by
			}
		}
	}
}

func TestOfRanksRefuses(t *testing.T) {
	for _, n := range probe.Wide() {
		for _, long := range []int{0, 1, 2, 3, 7, 8, 9, 128, 255, 256, 257, 511, 512, 513, 1024} {
			if n >= 0 && n <= 8 && long == 1<<n {
				continue
			}
			if m, e := axioms.OfRanks(n, make([]int, long)); e != api.ErrArg || m.N != 0 || len(m.Bases) != 0 {
				t.Errorf("OfRanks(%d, of %d numbers) = %v, %d", n, long, m, e)
			}
		}
	}
}
