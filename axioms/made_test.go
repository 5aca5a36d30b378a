package axioms_test

import (
	"math"
	"slices"
	"testing"

	"rota/api"
	"rota/axioms"
	"rota/probe"
)

// maker of a matroid by one of its families, beside what tells that family,
// and the rules by which the families of matroids are known from others.
type maker struct {
	name  string
	make  func(n int, l []int) (api.Matroid, api.Errno)
	tell  func(m api.Matroid) []int
	right func(n int, l []int) bool
}

func makers() []maker {
	return []maker{
		{"OfIndependents", axioms.OfIndependents, sieve(probe.Independent), rightIndependents},
		{"OfCircuits", axioms.OfCircuits, sieve(probe.Circuit), rightCircuits},
		{"OfFlats", axioms.OfFlats, sieve(probe.Flat), rightFlats},
		{"OfHyperplanes", axioms.OfHyperplanes, sieve(probe.Hyperplane), rightHyperplanes},
	}
}

// every: does a question hold for all of l?
func every(l []int, holds func(s int) bool) bool {
	return !slices.ContainsFunc(l, func(s int) bool { return !holds(s) })
}

// incomparable: does no set of l have another within it?
func incomparable(l []int) bool {
	return every(l, func(a int) bool {
		return every(l, func(b int) bool { return a == b || a&b != a })
	})
}

func rightIndependents(_ int, l []int) bool {
	downward := every(l, func(s int) bool {
		return every(probe.Elements(s), func(x int) bool { return slices.Contains(l, s-1<<x) })
	})
	grows := func(a, b int) bool {
		return slices.ContainsFunc(probe.Elements(b&^a), func(x int) bool { return slices.Contains(l, a+1<<x) })
	}
	return len(l) > 0 && downward && every(l, func(a int) bool {
		return every(l, func(b int) bool { return len(probe.Elements(a)) >= len(probe.Elements(b)) || grows(a, b) })
	})
}

func rightCircuits(_ int, l []int) bool {
	eliminate := func(a, b, x int) bool {
		return slices.ContainsFunc(l, func(c int) bool { return c&^((a|b)&^(1<<x)) == 0 })
	}
	return !slices.Contains(l, 0) && incomparable(l) && every(l, func(a int) bool {
		return every(l, func(b int) bool {
			return a == b || every(probe.Elements(a&b), func(x int) bool { return eliminate(a, b, x) })
		})
	})
}

func rightFlats(n int, l []int) bool {
	whole := 1<<n - 1
	met := every(l, func(a int) bool {
		return every(l, func(b int) bool { return slices.Contains(l, a&b) })
	})
	// The flats next above a flat have each other element once.
	return slices.Contains(l, whole) && met && every(l, func(a int) bool {
		var above []int
		for _, b := range l {
			if a != b && a&b == a && every(l, func(c int) bool { return c == a || c == b || a&c != a || c&b != c }) {
				above = append(above, b)
			}
		}
		return every(probe.Elements(whole&^a), func(x int) bool {
			holding := slices.DeleteFunc(slices.Clone(above), func(b int) bool { return b>>x&1 == 0 })
			return len(holding) == 1
		})
	})
}

func rightHyperplanes(n int, l []int) bool {
	whole := 1<<n - 1
	spans := func(a, b, x int) bool {
		return slices.ContainsFunc(l, func(c int) bool { return (a&b|1<<x)&^c == 0 })
	}
	return !slices.Contains(l, whole) && incomparable(l) && every(l, func(a int) bool {
		return every(l, func(b int) bool {
			return a == b || every(probe.Elements(whole&^(a|b)), func(x int) bool { return spans(a, b, x) })
		})
	})
}

// holdMade: what is made has the family that it was made of, or there is none.
func holdMade(t *testing.T, k maker, n int, l []int) {
	t.Helper()
	m, e := k.make(n, l)
	if !k.right(n, l) {
		if e != api.ErrShape || m.N != 0 || len(m.Bases) != 0 {
			t.Errorf("%s(%d, %v) = %v, %d, want %d", k.name, n, l, m, e, api.ErrShape)
		}
		return
	}
	if e != api.OK || m.N != n || wantCheck(m.Bases) != api.OK || !slices.Equal(k.tell(m), l) {
		t.Errorf("%s(%d, %v) = %v, %d", k.name, n, l, m, e)
	}
}

func TestMadeSmall(t *testing.T) {
	for _, k := range makers() {
		for n := range 4 {
			for f := range 1 << (1 << n) {
				holdMade(t, k, n, probe.Elements(f))
			}
		}
	}
}

// TestMadeOfFour needs no rules: the families of all matroids are known, so
// that each other one has to be refused.
func TestMadeOfFour(t *testing.T) {
	for _, k := range makers() {
		known := map[int]api.Matroid{}
		for _, m := range probe.All(4) {
			f := 0
			for _, s := range k.tell(m) {
				f |= 1 << s
			}
			known[f] = m
		}
		if len(known) != 68 {
			t.Errorf("%s: %d families of 68 matroids", k.name, len(known))
		}
		for f := range 1 << 16 {
			m, e := k.make(4, probe.Elements(f))
			want, is := known[f]
			if !is && e != api.ErrShape || is && e != api.OK || m.N != want.N || !slices.Equal(m.Bases, want.Bases) {
				t.Errorf("%s(4, %v) = %v, %d, want %v", k.name, probe.Elements(f), m, e, want)
			}
		}
	}
}

// TestMadeTwice is what the document calls "each family tells all".
func TestMadeTwice(t *testing.T) {
	for _, m := range probe.Matroids() {
		for _, k := range makers() {
			if got, e := k.make(m.N, k.tell(m)); e != api.OK || got.N != m.N || !slices.Equal(got.Bases, m.Bases) {
				t.Errorf("%s(%d, %v) = %v, %d, want %v", k.name, m.N, k.tell(m), got, e, m)
			}
		}
	}
}

func TestMadeNearlyRight(t *testing.T) {
	for _, k := range makers() {
		for i, m := range probe.All(5) {
			l := k.tell(m)
			for s := i % 3; s < 32; s += 3 {
				holdMade(t, k, 5, toggled(l, s))
			}
		}
		for i, m := range probe.Known() {
			l := k.tell(m)
			for s := i % 5; s < 1<<m.N; s += 6 << (m.N - 6) {
				holdMade(t, k, m.N, toggled(l, s))
			}
		}
	}
}

func TestMadeEdges(t *testing.T) {
	for _, x := range []struct {
		maker int
		n     int
		l     []int
		bases []int
	}{
		{0, 0, nil, nil},
		{0, 0, []int{0}, []int{0}},
		{0, 3, nil, nil},
		{0, 3, []int{0}, []int{0}},
		{0, 3, []int{1, 2}, nil},
		{0, 3, []int{0, 1, 2, 3, 4}, nil},
		{1, 0, nil, []int{0}},
		{1, 0, []int{0}, nil},
		{1, 3, nil, []int{7}},
		{1, 3, []int{0}, nil},
		{1, 3, []int{1, 3}, nil},
		{1, 3, []int{3, 6}, nil},
		{1, 3, []int{3, 5, 6}, []int{1, 2, 4}},
		{1, 3, []int{1, 2, 4}, []int{0}},
		{2, 0, nil, nil},
		{2, 0, []int{0}, []int{0}},
		{2, 2, []int{0, 3}, []int{1, 2}},
		{2, 2, []int{3}, []int{0}},
		{2, 2, []int{0}, nil},
		{2, 2, []int{0, 1, 2}, nil},
		{2, 2, []int{0, 1, 3}, nil},
		{3, 0, nil, []int{0}},
		{3, 0, []int{0}, nil},
		{3, 2, nil, []int{0}},
		{3, 2, []int{0}, []int{1, 2}},
		{3, 2, []int{3}, nil},
		{3, 2, []int{1}, []int{2}},
		{3, 2, []int{0, 1}, nil},
		{3, 4, []int{3, 5}, nil},
	} {
		k := makers()[x.maker]
		m, e := k.make(x.n, x.l)
		wantN, want := x.n, api.OK
		if x.bases == nil {
			wantN, want = 0, api.ErrShape
		}
		if e != want || m.N != wantN || !slices.Equal(m.Bases, x.bases) {
			t.Errorf("%s(%d, %v) = %v, %d, want %v", k.name, x.n, x.l, m, e, x.bases)
		}
	}
}

func TestMadeRefuse(t *testing.T) {
	for _, k := range makers() {
		for _, x := range []struct {
			n int
			l []int
		}{
			{-1, nil}, {9, nil}, {9, []int{0}}, {math.MinInt, nil}, {math.MaxInt, []int{0}}, {64, []int{0}},
			{0, []int{1}}, {2, []int{4}}, {2, []int{-1, 0}}, {2, []int{3, 0}}, {2, []int{0, 0, 3}},
			{3, []int{0, 1, 2, 8}}, {3, []int{3, 6, 5}}, {8, []int{255, 256}}, {8, make([]int, 1<<16)},
		} {
			if m, e := k.make(x.n, x.l); e != api.ErrArg || m.N != 0 || len(m.Bases) != 0 {
				t.Errorf("%s(%d, %.8v) = %v, %d, want %d", k.name, x.n, x.l, m, e, api.ErrArg)
			}
		}
	}
}
