package sets_test

import (
	"math"
	"slices"
	"testing"

	"rota/api"
	"rota/sets"
)

// call on a family, by its name.
type call struct {
	name string
	do   func(n int, l []int) ([]int, api.Errno)
	want func(n int, l []int) []int
}

// calls: those of P5, each beside the document's words done at length.
func calls() []call {
	return []call{
		{"Least", sets.Least, wantLeast},
		{"Most", sets.Most, wantMost},
		{"Shadow", sets.Shadow, wantShadow},
		{"Blocker", sets.Blocker, wantBlocker},
	}
}

// sieve: the sets of n elements that are wanted, rising.
func sieve(n int, wanted func(s int) bool) []int {
	var l []int
	for s := 0; s < 1<<n; s++ {
		if wanted(s) {
			l = append(l, s)
		}
	}
	return l
}

// properWithin: is a within b, and not b itself?
func properWithin(a, b int) bool { return a != b && a&b == a }

func wantLeast(n int, l []int) []int {
	return sieve(n, func(s int) bool {
		return slices.Contains(l, s) && !slices.ContainsFunc(l, func(o int) bool { return properWithin(o, s) })
	})
}

func wantMost(n int, l []int) []int {
	return sieve(n, func(s int) bool {
		return slices.Contains(l, s) && !slices.ContainsFunc(l, func(o int) bool { return properWithin(s, o) })
	})
}

func wantShadow(n int, l []int) []int {
	return sieve(n, func(s int) bool {
		return slices.ContainsFunc(l, func(o int) bool {
			return properWithin(s, o) && len(elements(o)) == len(elements(s))+1
		})
	})
}

func wantBlocker(n int, l []int) []int {
	meeting := sieve(n, func(s int) bool {
		return !slices.ContainsFunc(l, func(o int) bool { return s&o == 0 })
	})
	return wantLeast(n, meeting)
}

// families: all of up to three elements, and some of each greater number.
func families(visit func(n int, l []int)) {
	for n := range 4 {
		for f := range 1 << (1 << n) {
			visit(n, elements(f))
		}
	}
	for n := 4; n <= 8; n++ {
		for step := 1; step <= 37; step++ {
			for first := range 4 {
				visit(n, sieve(n, func(s int) bool { return s%step == first }))
				visit(n, sieve(n, func(s int) bool { return s*s%(step+1) == first && s > 0 }))
			}
		}
		for k := 0; k <= n; k++ {
			visit(n, sieve(n, func(s int) bool { return len(elements(s)) == k }))
		}
	}
}

func TestFamilyCalls(t *testing.T) {
	for _, c := range calls() {
		families(func(n int, l []int) {
			if got, e := c.do(n, l); e != api.OK || !slices.Equal(got, c.want(n, l)) {
				t.Errorf("%s(%d, %v) = %v, %d, want %v", c.name, n, l, got, e, c.want(n, l))
			}
		})
	}
}

func TestFamilyCallsEdges(t *testing.T) {
	by := map[string]call{}
	for _, c := range calls() {
		by[c.name] = c
	}
	for _, x := range []struct {
		name string
		n    int
		l    []int
		want []int
	}{
		{"Least", 0, nil, nil},
		{"Least", 3, []int{0, 1, 7}, []int{0}},
		{"Least", 3, []int{1, 3, 6, 7}, []int{1, 6}},
		{"Most", 0, []int{0}, []int{0}},
		{"Most", 3, []int{0, 1, 3, 4}, []int{3, 4}},
		{"Shadow", 3, nil, nil},
		{"Shadow", 3, []int{0}, nil},
		{"Shadow", 3, []int{0, 4}, []int{0}},
		{"Shadow", 3, []int{3, 6}, []int{1, 2, 4}},
		{"Shadow", 8, []int{255}, []int{127, 191, 223, 239, 247, 251, 253, 254}},
		{"Blocker", 0, nil, []int{0}},
		{"Blocker", 0, []int{0}, nil},
		{"Blocker", 8, nil, []int{0}},
		{"Blocker", 2, []int{0}, nil},
		{"Blocker", 2, []int{0, 1, 3}, nil},
		{"Blocker", 2, []int{3}, []int{1, 2}},
		{"Blocker", 3, []int{3, 5, 6}, []int{3, 5, 6}},
		{"Blocker", 3, []int{3, 4}, []int{5, 6}},
		{"Blocker", 8, []int{255}, []int{1, 2, 4, 8, 16, 32, 64, 128}},
	} {
		if got, e := by[x.name].do(x.n, x.l); e != api.OK || !slices.Equal(got, x.want) {
			t.Errorf("%s(%d, %v) = %v, %d, want %v", x.name, x.n, x.l, got, e, x.want)
		}
	}
}

func TestBlockerTwiceIsLeast(t *testing.T) {
	families(func(n int, l []int) {
		once, e1 := sets.Blocker(n, l)
		twice, e2 := sets.Blocker(n, once)
		least, e3 := sets.Least(n, l)
		if e1 != api.OK || e2 != api.OK || e3 != api.OK || !slices.Equal(twice, least) {
			t.Errorf("of %v (%d): Blocker twice %v, Least %v", l, n, twice, least)
		}
	})
}

// wrongFamilies: what Family refuses, whatever is asked of it.
func wrongFamilies() []struct {
	n int
	l []int
} {
	return []struct {
		n int
		l []int
	}{
		{-1, nil}, {9, nil}, {9, []int{0}}, {math.MinInt, []int{0}}, {math.MaxInt, []int{0}}, {64, []int{0, 1}},
		{0, []int{1}}, {2, []int{4}}, {2, []int{2, 1}}, {2, []int{1, 1}}, {2, []int{-1}}, {2, []int{0, 1, 2, 3, 4}},
		{8, []int{256}}, {8, []int{0, math.MaxInt}}, {8, []int{math.MinInt}}, {3, make([]int, 1<<16)},
	}
}

func TestFamilyCallsRefuse(t *testing.T) {
	for _, c := range calls() {
		for _, x := range wrongFamilies() {
			if got, e := c.do(x.n, x.l); e != api.ErrArg || len(got) != 0 {
				t.Errorf("%s(%d, %.8v) = %v, %d, want %d", c.name, x.n, x.l, got, e, api.ErrArg)
			}
		}
	}
}
