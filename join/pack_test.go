package join_test

import (
	"math/bits"
	"slices"
	"testing"

	"rota/api"
	"rota/join"
	"rota/probe"
)

// apart: all lists of bases, rising, no two of which have an element together.
func apart(m api.Matroid) [][]int {
	all := [][]int{nil}
	for _, b := range m.Bases {
		for _, l := range all {
			if !slices.ContainsFunc(l, func(s int) bool { return s&b != 0 }) {
				all = append(all, append(slices.Clone(l), b))
			}
		}
	}
	return all
}

// longest: of these lists the longest, and of several the first.
func longest(a, b []int) int {
	if len(a) != len(b) {
		return len(b) - len(a)
	}
	return slices.Compare(a, b)
}

func rank(m api.Matroid) int { return bits.OnesCount(uint(m.Bases[0])) }

func TestPack(t *testing.T) {
	for _, m := range probe.Matroids() {
		if rank(m) == 0 {
			if got := pack(m); !isRefusal(got, api.ErrNone) {
				t.Errorf("Pack(%v) = %v, want %d", m, got, api.ErrNone)
			}
			continue
		}
		want := slices.MinFunc(apart(m), longest)
		if got, e := join.Pack(m); e != api.OK || !slices.Equal(got, want) {
			t.Errorf("Pack(%v) = %v, %d, want %v", m, got, e, want)
		}
	}
}

// weakness of s, whose rank is not that of all elements, rounded down.
func weakness(m api.Matroid, s int) int {
	return down(m.N-bits.OnesCount(uint(s)), rank(m)-probe.Rank(m, s))
}

// weakest: Weak's set, by the words of P19.
func weakest(m api.Matroid) int {
	var l []int
	for s := range 1 << m.N {
		if probe.Rank(m, s) < rank(m) {
			l = append(l, s)
		}
	}
	return slices.MinFunc(l, func(a, b int) int { return weakness(m, a) - weakness(m, b) })
}

func TestWeak(t *testing.T) {
	for _, m := range probe.Matroids() {
		if rank(m) == 0 {
			if got := weak(m); !isRefusal(got, api.ErrNone) {
				t.Errorf("Weak(%v) = %v, want %d", m, got, api.ErrNone)
			}
			continue
		}
		want := weakest(m)
		if got, e := join.Weak(m); e != api.OK || got != want {
			t.Errorf("Weak(%v) = %d, %d, want %d", m, got, e, want)
		}
	}
}

// TestPackIsBarred: there is a set that leaves room for no more bases than
// Pack has.
func TestPackIsBarred(t *testing.T) {
	for _, m := range probe.Matroids() {
		l, e := join.Pack(m)
		s, also := join.Weak(m)
		if e != also {
			t.Errorf("%v: Pack says %d, Weak %d", m, e, also)
		}
		if e != api.OK {
			continue
		}
		if want := weakness(m, s); len(l) != want {
			t.Errorf("Pack(%v) = %v, Weak %d, which wants %d", m, l, s, want)
		}
	}
}

// TestPackEdges holds answers that were found by hand.
func TestPackEdges(t *testing.T) {
	for _, x := range []struct {
		m    api.Matroid
		pack []int
		weak int
		want api.Errno
	}{
		{probe.Uniform(2, 4), []int{3, 12}, 0, api.OK},
		{probe.Uniform(0, 0), nil, 0, api.ErrNone},
		{probe.Uniform(0, 1), nil, 0, api.ErrNone},
		{probe.Uniform(0, 8), nil, 0, api.ErrNone},
		{probe.Uniform(1, 1), []int{1}, 0, api.OK},
		{probe.Uniform(8, 8), []int{255}, 0, api.OK},
		{probe.Uniform(1, 8), []int{1, 2, 4, 8, 16, 32, 64, 128}, 0, api.OK},
		{probe.Uniform(2, 8), []int{3, 12, 48, 192}, 0, api.OK},
		{probe.Uniform(3, 8), []int{7, 56}, 0, api.OK},
		{probe.Uniform(5, 8), []int{31}, 0, api.OK},
		// A loop is in no basis: all loops together leave the least room.
		{api.Matroid{N: 2, Bases: []int{1}}, []int{1}, 2, api.OK},
		{api.Matroid{N: 4, Bases: []int{1, 2}}, []int{1, 2}, 12, api.OK},
		// 3 is in all bases, so there is no second one.
		{api.Matroid{N: 4, Bases: []int{9, 10, 12}}, []int{9}, 7, api.OK},
		// 0 and 1, and 2 and 3, are parallel.
		{api.Matroid{N: 4, Bases: []int{5, 6, 9, 10}}, []int{5, 10}, 0, api.OK},
		// The least basis, a star, leaves none.
		{probe.K4(), []int{13, 50}, 0, api.OK},
		{probe.Fano(), []int{11, 84}, 0, api.OK},
	} {
		if got, e := join.Pack(x.m); e != x.want || !slices.Equal(got, x.pack) {
			t.Errorf("Pack(%v) = %v, %d, want %v, %d", x.m, got, e, x.pack, x.want)
		}
		if got, e := join.Weak(x.m); e != x.want || got != x.weak {
			t.Errorf("Weak(%v) = %d, %d, want %d, %d", x.m, got, e, x.weak, x.want)
		}
	}
}
