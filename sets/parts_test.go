package sets_test

import (
	"slices"
	"testing"

	"rota/api"
	"rota/probe"
	"rota/sets"
)

func TestParts(t *testing.T) {
	for s := range 256 {
		var singles []int
		for _, e := range elements(s) {
			singles = append(singles, 1<<e)
		}
		if got := slices.Collect(sets.Singles(s)); !slices.Equal(got, singles) {
			t.Errorf("Singles(%d) = %v", s, got)
		}
		if got := sets.Lowest(s); s == 0 && got != 0 || s != 0 && got != singles[0] {
			t.Errorf("Lowest(%d) = %d", s, got)
		}
		if sets.Size(s) != len(singles) {
			t.Errorf("Size(%d) = %d", s, sets.Size(s))
		}
		for o := range 256 {
			if sets.Within(o, s) != (o == s || properWithin(o, s)) {
				t.Errorf("Within(%d, %d) = %v", o, s, sets.Within(o, s))
			}
		}
	}
	for x := range sets.Singles(6) {
		if x != 2 {
			t.Errorf("Singles goes on to %d", x)
		}
		break
	}
}

func TestComplements(t *testing.T) {
	families(func(n int, l []int) {
		want := sets.Sieve(n, func(s int) bool { return slices.Contains(l, 1<<n-1-s) })
		if got := sets.Complements(n, l); !slices.Equal(got, want) {
			t.Errorf("Complements(%d, %v) = %v, want %v", n, l, got, want)
		}
	})
}

func TestOldNames(t *testing.T) {
	for kept := range 256 {
		names := elements(kept)
		for s := range 1 << len(names) {
			want := 0
			for _, e := range elements(s) {
				want |= 1 << names[e]
			}
			if got := sets.OldNames(s, kept); got != want {
				t.Errorf("OldNames(%d, %d) = %d, want %d", s, kept, got, want)
			}
		}
	}
}

func TestWhole(t *testing.T) {
	for n := range 9 {
		if got := elements(sets.Whole(n)); len(got) != n || n > 0 && got[n-1] != n-1 {
			t.Errorf("Whole(%d) has %v", n, got)
		}
	}
}

func TestCheckFew(t *testing.T) {
	for _, x := range probe.SetLists() {
		if got := sets.CheckFew(x.N, x.L); got != api.OK {
			t.Errorf("CheckFew(%d, %v) = %d", x.N, x.L, got)
		}
	}
	for _, x := range probe.WrongSets() {
		if got := sets.CheckFew(x.N, x.L); got != x.Want {
			t.Errorf("CheckFew(%d, %.10v) = %d, want %d", x.N, x.L, got, x.Want)
		}
	}
}

func TestCheckNumbers(t *testing.T) {
	for _, x := range []struct{ least, most int }{{-1000, 1000}, {1, 1000}, {0, 100}, {5, 5}} {
		for n := range 4 {
			for k := x.least; k <= x.most; k++ {
				l := slices.Repeat([]int{k}, n)
				if got := sets.CheckNumbers(n, l, x.least, x.most); got != api.OK {
					t.Errorf("CheckNumbers(%d, %v, %d, %d) = %d", n, l, x.least, x.most, got)
				}
			}
			for _, wrong := range probe.NoNumbers(n, x.least, x.most) {
				if got := sets.CheckNumbers(n, wrong.L, x.least, x.most); got != wrong.Want {
					t.Errorf("CheckNumbers(%d, %.10v, %d, %d) = %d, want %d", n, wrong.L, x.least, x.most, got, wrong.Want)
				}
			}
		}
	}
}
