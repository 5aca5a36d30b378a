package probe

import (
	"math"
	"math/bits"
	"slices"

	"rota/api"
)

// Exchange holds bases of one size to the words of P6, one by one.
func Exchange(bases []int) bool {
	for _, a := range bases {
		for _, b := range bases {
			for x := range api.MaxGround {
				if a>>x&1 == 1 && b>>x&1 == 0 && !hasPartner(bases, a, b, x) {
					return false
				}
			}
		}
	}
	return true
}

// hasPartner: is there a y of b alone with which a without x is a basis?
func hasPartner(bases []int, a, b, x int) bool {
	for y := range api.MaxGround {
		if b>>y&1 == 1 && a>>y&1 == 0 && slices.Contains(bases, a&^(1<<x)|1<<y) {
			return true
		}
	}
	return false
}

// choose: all sets of n elements that have k.
func choose(n, k int) []int {
	var l []int
	for s := range 1 << n {
		if bits.OnesCount(uint(s)) == k {
			l = append(l, s)
		}
	}
	return l
}

// All matroids of n elements. There are 1, 2, 5, 16, 68, 406; more than five
// elements take too long.
func All(n int) []api.Matroid {
	var all []api.Matroid
	for k := range n + 1 {
		ground := choose(n, k)
		for picked := 1; picked < 1<<len(ground); picked++ {
			var bases []int
			for i, s := range ground {
				if picked>>i&1 == 1 {
					bases = append(bases, s)
				}
			}
			if Exchange(bases) {
				all = append(all, api.Matroid{N: n, Bases: bases})
			}
		}
	}
	return all
}

// allBut: the sets of n elements that have k, but some.
func allBut(n, k int, but ...int) api.Matroid {
	bases := slices.DeleteFunc(choose(n, k), func(s int) bool { return slices.Contains(but, s) })
	return api.Matroid{N: n, Bases: bases}
}

// Uniform: all sets of n elements that have as many as the rank.
func Uniform(rank, n int) api.Matroid { return allBut(n, rank) }

// Equal: are two matroids written alike?
func Equal(a, b api.Matroid) bool { return a.N == b.N && slices.Equal(a.Bases, b.Bases) }

// WithIndependents: the matroid whose bases are the independent sets that lie
// in no other one.
func WithIndependents(n int, independent func(s int) bool) api.Matroid {
	var l, bases []int
	for s := range 1 << n {
		if independent(s) {
			l = append(l, s)
		}
	}
	for _, s := range l {
		if !slices.ContainsFunc(l, func(o int) bool { return o != s && o&s == s }) {
			bases = append(bases, s)
		}
	}
	return api.Matroid{N: n, Bases: bases}
}

// within: what is left of m's bases in the elements of s, where s holds one.
// All other elements are loops.
func within(m api.Matroid, s int) api.Matroid {
	bases := slices.DeleteFunc(slices.Clone(m.Bases), func(b int) bool { return b&^s != 0 })
	return api.Matroid{N: m.N, Bases: bases}
}

// twice: m, and one element more that does what element 0 does.
func twice(m api.Matroid) api.Matroid {
	bases := slices.Clone(m.Bases)
	for _, b := range m.Bases {
		if b&1 == 1 {
			bases = append(bases, b&^1|1<<m.N)
		}
	}
	slices.Sort(bases)
	return api.Matroid{N: m.N + 1, Bases: bases}
}

// K4, whose elements are the edges 01, 02, 03, 12, 13, 23.
func K4() api.Matroid { return allBut(6, 3, 0b001011, 0b010101, 0b100110, 0b111000) }

// Fano: seven points on seven lines.
func Fano() api.Matroid {
	return allBut(7, 3, 0b0000111, 0b0011001, 0b1100001, 0b0101010, 0b1010010, 0b1001100, 0b0110100)
}

// Vamos: eight elements, and five circuits of four. No matrix has it.
func Vamos() api.Matroid {
	return allBut(8, 4, 0b00001111, 0b00110011, 0b11000011, 0b00111100, 0b11001100)
}

// Known matroids of six elements and more: with and without loops, elements
// that are in all bases, and elements that do the same.
func Known() []api.Matroid {
	known := []api.Matroid{K4(), Fano(), Vamos(), twice(K4()), twice(twice(K4())), twice(Fano()), within(Fano(), 0b0111011), within(Vamos(), 0b11111100)}
	fano := Fano()
	// One line less: this one is no matroid of a matrix modulo 2.
	known = append(known, allBut(7, 3, 0b0000111, 0b0011001, 0b1100001, 0b0101010, 0b1010010, 0b1001100))
	known = append(known, api.Matroid{N: 8, Bases: fano.Bases})
	known = append(known, api.Matroid{N: 8, Bases: []int{0}}, api.Matroid{N: 8, Bases: []int{255}}, api.Matroid{N: 8, Bases: []int{0b10110}})
	for n := 6; n <= 8; n++ {
		for k := range n + 1 {
			known = append(known, Uniform(k, n))
		}
	}
	return known
}

// Matroids: all of few elements, and known ones of more.
func Matroids() []api.Matroid {
	var l []api.Matroid
	for n := range 6 {
		l = append(l, All(n)...)
	}
	return append(l, Known()...)
}

// Refused is no matroid, and how it is refused.
type Refused struct {
	M    api.Matroid
	Want api.Errno
}

// Wrong holds what is no matroid, beside what P6 says of it.
func Wrong() []Refused {
	return []Refused{
		{api.Matroid{N: 0}, api.ErrArg},
		{api.Matroid{N: 3, Bases: []int{}}, api.ErrArg},
		{api.Matroid{N: -1, Bases: []int{0}}, api.ErrArg},
		{api.Matroid{N: 9, Bases: []int{0}}, api.ErrArg},
		{api.Matroid{N: math.MinInt, Bases: []int{0}}, api.ErrArg},
		{api.Matroid{N: math.MaxInt, Bases: []int{1}}, api.ErrArg},
		{api.Matroid{N: 64, Bases: []int{1}}, api.ErrArg},
		{api.Matroid{N: 0, Bases: []int{1}}, api.ErrArg},
		{api.Matroid{N: 2, Bases: []int{4}}, api.ErrArg},
		{api.Matroid{N: 2, Bases: []int{-1}}, api.ErrArg},
		{api.Matroid{N: 2, Bases: []int{2, 1}}, api.ErrArg},
		{api.Matroid{N: 2, Bases: []int{1, 1}}, api.ErrArg},
		{api.Matroid{N: 2, Bases: []int{0, 1}}, api.ErrArg},
		{api.Matroid{N: 3, Bases: []int{1, 2, 7}}, api.ErrArg},
		{api.Matroid{N: 8, Bases: []int{255, 256}}, api.ErrArg},
		{api.Matroid{N: 8, Bases: []int{1, math.MaxInt}}, api.ErrArg},
		{api.Matroid{N: 8, Bases: make([]int, 1<<16)}, api.ErrArg},
		// They can not be exchanged, but what is told first holds.
		{api.Matroid{N: 4, Bases: []int{3, 12, 14}}, api.ErrArg},
		{api.Matroid{N: 4, Bases: []int{12, 3}}, api.ErrArg},
		{api.Matroid{N: 4, Bases: []int{3, 12}}, api.ErrShape},
		{api.Matroid{N: 4, Bases: []int{5, 10}}, api.ErrShape},
		{api.Matroid{N: 8, Bases: []int{15, 240}}, api.ErrShape},
		{api.Matroid{N: 6, Bases: []int{7, 11, 13, 14, 56}}, api.ErrShape},
	}
}
