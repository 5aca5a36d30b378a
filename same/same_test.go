package same_test

import (
	"slices"
	"testing"

	"rota/api"
	"rota/probe"
	"rota/same"
)

func TestRename(t *testing.T) {
	for _, m := range probe.Matroids() {
		for _, p := range probe.SomeOrders(m.N) {
			want := probe.Renamed(m, p)
			got, e := same.Rename(m, p)
			if e != api.OK || !probe.Equal(got, want) {
				t.Errorf("Rename(%v, %v) = %v, %d, want %v", m, p, got, e, want)
			}
			if back, e := same.Rename(got, probe.Inverse(p)); e != api.OK || !probe.Equal(back, m) {
				t.Errorf("named back, Rename(%v, %v) is %v, %d", m, p, back, e)
			}
		}
	}
}

func TestRenameNoOrders(t *testing.T) {
	for _, m := range probe.Matroids() {
		for _, l := range probe.NoOrders(probe.SomeOrders(m.N)[0]) {
			if got, e := same.Rename(m, l); e != api.ErrArg || got.N != 0 || len(got.Bases) != 0 {
				t.Errorf("Rename(%v, %v) = %v, %d, want %d", m, l, got, e, api.ErrArg)
			}
		}
	}
}

// written: a matroid as a text, so that a map can hold it.
func written(m api.Matroid) string {
	text := []byte{byte(m.N)}
	for _, b := range m.Bases {
		text = append(text, byte(b))
	}
	return string(text)
}

// holdIsomorphic asks for the first order from a to b, if one is there.
func holdIsomorphic(t *testing.T, a, b api.Matroid, first []int, isThere bool) {
	t.Helper()
	want := api.ErrNone
	if isThere {
		want = api.OK
	}
	if got, e := same.Isomorphic(a, b); e != want || !slices.Equal(got, first) {
		t.Errorf("Isomorphic(%v, %v) = %v, %d, want %v, %d", a, b, got, e, first, want)
	}
}

// TestIsomorphic holds all pairs of small matroids to all orders.
func TestIsomorphic(t *testing.T) {
	var all []api.Matroid
	for n := range 6 {
		all = append(all, probe.All(n)...)
	}
	for _, a := range all {
		first := map[string][]int{}
		for _, p := range slices.Backward(probe.Orders(a.N)) {
			first[written(probe.Renamed(a, p))] = p
		}
		for _, b := range all {
			p, ok := first[written(b)]
			holdIsomorphic(t, a, b, p, ok)
		}
	}
}

// firstOrder from a to b, by all orders of as many elements.
func firstOrder(orders [][]int, a, b api.Matroid) ([]int, bool) {
	for _, p := range orders {
		if probe.Equal(probe.Renamed(a, p), b) {
			return p, true
		}
	}
	return nil, false
}

func TestIsomorphicOfKnown(t *testing.T) {
	for _, m := range probe.Known() {
		all := probe.Orders(m.N)
		for _, p := range probe.SomeOrders(m.N)[:5] {
			b := probe.Renamed(m, p)
			first, ok := firstOrder(all, m, b)
			holdIsomorphic(t, m, b, first, ok)
		}
		holdIsomorphic(t, m, m, all[0], true)
	}
}

// TestIsomorphicAndCanon: two are one but for names just if their Canons are
// the same.
func TestIsomorphicAndCanon(t *testing.T) {
	canon := func(m api.Matroid) api.Matroid {
		c, _ := same.Canon(m)
		return c
	}
	known := probe.Known()
	for i, a := range known {
		for _, b := range known[:i] {
			if a.N != b.N || len(a.Bases) != len(b.Bases) {
				holdIsomorphic(t, a, b, nil, false)
				continue
			}
			got, e := same.Isomorphic(a, b)
			if areOne := probe.Equal(canon(a), canon(b)); areOne != (e == api.OK) || areOne && !probe.Equal(probe.Renamed(a, got), b) {
				t.Errorf("Isomorphic(%v, %v) = %v, %d", a, b, got, e)
			}
		}
	}
}

func TestIsomorphicUnlike(t *testing.T) {
	// Rank, elements and bases are alike: two circuits of three that share an
	// element, and two that do not.
	a := api.Matroid{N: 6, Bases: without(probe.Uniform(3, 6).Bases, 0b000111, 0b011001)}
	b := api.Matroid{N: 6, Bases: without(probe.Uniform(3, 6).Bases, 0b000111, 0b111000)}
	holdIsomorphic(t, a, b, nil, false)
	holdIsomorphic(t, b, a, nil, false)
	holdIsomorphic(t, probe.Uniform(3, 8), probe.Uniform(5, 8), nil, false)
	holdIsomorphic(t, probe.Uniform(7, 8), probe.Uniform(1, 8), nil, false)
}

// without: what is left of a list.
func without(l []int, gone ...int) []int {
	return slices.DeleteFunc(slices.Clone(l), func(s int) bool { return slices.Contains(gone, s) })
}

// kept: the orders that leave m as it is, of all of as many elements.
func kept(orders [][]int, m api.Matroid) [][]int {
	var l [][]int
	for _, p := range orders {
		if probe.Equal(probe.Renamed(m, p), m) {
			l = append(l, p)
		}
	}
	return l
}

// orbits by the orders that leave n elements as they are.
func orbits(n int, orders [][]int) []int {
	var l []int
	for x := range n {
		orbit := 0
		for _, p := range orders {
			orbit |= 1 << p[x]
		}
		if !slices.Contains(l, orbit) {
			l = append(l, orbit)
		}
	}
	slices.Sort(l)
	return l
}

func TestGroupAndOrbits(t *testing.T) {
	for _, m := range probe.Matroids() {
		orders := kept(probe.Orders(m.N), m)
		if got, e := same.Group(m); e != api.OK || got != len(orders) {
			t.Errorf("Group(%v) = %d, %d, want %d", m, got, e, len(orders))
		}
		want := orbits(m.N, orders)
		if got, e := same.Orbits(m); e != api.OK || !slices.Equal(got, want) {
			t.Errorf("Orbits(%v) = %v, %d, want %v", m, got, e, want)
		}
	}
}

// leastOf all Renames of m.
func leastOf(orders [][]int, m api.Matroid) api.Matroid {
	least := m
	for _, p := range orders {
		if r := probe.Renamed(m, p); slices.Compare(r.Bases, least.Bases) < 0 {
			least = r
		}
	}
	return least
}

func TestCanon(t *testing.T) {
	for _, m := range probe.Matroids() {
		want := leastOf(probe.Orders(m.N), m)
		for _, x := range []api.Matroid{m, probe.Renamed(m, probe.SomeOrders(m.N)[0])} {
			if got, e := same.Canon(x); e != api.OK || !probe.Equal(got, want) {
				t.Errorf("Canon(%v) = %v, %d, want %v", x, got, e, want)
			}
		}
	}
}

// TestCanonCounts: how many matroids of so many elements there are but for
// names is known.
func TestCanonCounts(t *testing.T) {
	for n, want := range []int{1, 2, 4, 8, 17, 38} {
		seen := map[string]int{}
		for _, m := range probe.All(n) {
			c, _ := same.Canon(m)
			seen[written(c)]++
		}
		if len(seen) != want {
			t.Errorf("of %d elements there are %d, want %d", n, len(seen), want)
		}
	}
}

// TestSameEdges holds answers that were found by hand, or are well known.
func TestSameEdges(t *testing.T) {
	for _, x := range []struct {
		m      api.Matroid
		group  int
		orbits []int
		canon  []int
	}{
		{probe.Uniform(0, 0), 1, nil, []int{0}},
		{probe.Uniform(0, 1), 1, []int{1}, []int{0}},
		{probe.Uniform(1, 1), 1, []int{1}, []int{1}},
		{probe.Uniform(0, 8), 40320, []int{255}, []int{0}},
		{probe.Uniform(8, 8), 40320, []int{255}, []int{255}},
		{probe.Uniform(1, 8), 40320, []int{255}, []int{1, 2, 4, 8, 16, 32, 64, 128}},
		{probe.Uniform(4, 8), 40320, []int{255}, probe.Uniform(4, 8).Bases},
		{api.Matroid{N: 3, Bases: []int{2, 4}}, 2, []int{1, 6}, []int{1, 2}},
		{api.Matroid{N: 3, Bases: []int{5, 6}}, 2, []int{3, 4}, []int{3, 5}},
		{api.Matroid{N: 8, Bases: []int{0b10110}}, 720, []int{22, 233}, []int{7}},
		// Two pairs of parallel elements, and a loop: 2.
		{api.Matroid{N: 5, Bases: []int{9, 10, 17, 18}}, 8, []int{4, 27}, []int{3, 5, 10, 12}},
		{probe.K4(), 24, []int{63}, nil},
		{probe.Fano(), 168, []int{127}, nil},
		{probe.Vamos(), 64, nil, nil},
	} {
		if got, e := same.Group(x.m); e != api.OK || got != x.group {
			t.Errorf("Group(%v) = %d, %d, want %d", x.m, got, e, x.group)
		}
		if got, e := same.Orbits(x.m); x.orbits != nil && (e != api.OK || !slices.Equal(got, x.orbits)) {
			t.Errorf("Orbits(%v) = %v, %d, want %v", x.m, got, e, x.orbits)
		}
		if got, e := same.Canon(x.m); x.canon != nil && (e != api.OK || !probe.Equal(got, api.Matroid{N: x.m.N, Bases: x.canon})) {
			t.Errorf("Canon(%v) = %v, %d, want %v", x.m, got, e, x.canon)
		}
	}
	holdIsomorphic(t, probe.Uniform(0, 0), probe.Uniform(0, 0), nil, true)
	holdIsomorphic(t, probe.Uniform(0, 0), probe.Uniform(0, 1), nil, false)
	holdIsomorphic(t, probe.Uniform(0, 1), probe.Uniform(1, 1), nil, false)
	// The loop comes first.
	holdIsomorphic(t, api.Matroid{N: 3, Bases: []int{1, 2}}, api.Matroid{N: 3, Bases: []int{2, 4}}, []int{1, 2, 0}, true)
	holdIsomorphic(t, api.Matroid{N: 3, Bases: []int{2, 4}}, api.Matroid{N: 3, Bases: []int{1, 2}}, []int{2, 0, 1}, true)
}
