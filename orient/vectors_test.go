package orient_test

import (
	"slices"

	"rota/probe"
)

// given: a list of vectors.
type given struct {
	d int
	l [][]int
}

// of d numbers each.
func of(d int, numbers ...int) given {
	x := given{d: d}
	for row := range slices.Chunk(numbers, d) {
		x.l = append(x.l, slices.Clone(row))
	}
	return x
}

// small vectors: all whose numbers are from -far to far.
func small(d, far int) [][]int {
	rows := [][]int{nil}
	for range d {
		var longer [][]int
		for _, row := range rows {
			for v := -far; v <= far; v++ {
				longer = append(longer, append(row[:len(row):len(row)], v))
			}
		}
		rows = longer
	}
	return rows
}

// pairs: none, each, and any two of all small vectors.
func pairs(d, far int) []given {
	all := []given{{d, nil}, {d, [][]int{}}}
	for _, a := range small(d, far) {
		all = append(all, given{d, [][]int{a}})
		for _, b := range small(d, far) {
			all = append(all, given{d, [][]int{a, b}})
		}
	}
	return all
}

// jumpVectors: so many lists of up to most vectors, of numbers from -far to far.
// Where the numbers are few, many vectors are nought, or multiples of others.
func jumpVectors(d, far, most, times int) []given {
	var all []given
	var jumps probe.Jumps
	for i := range times {
		x := given{d: d}
		for range most - i%4 {
			v := make([]int, d)
			for j := range v {
				v[j] = jumps.Next(2*far+1) - far
			}
			x.l = append(x.l, v)
		}
		all = append(all, x)
	}
	return all
}

// nearly: lists in which the last vector is a sum of the first ones, or lies
// beside that by as little as whole numbers allow.
func nearly(d, times int) []given {
	all := jumpVectors(d, 5, 7, times)
	for i, x := range all {
		last := x.l[len(x.l)-1]
		copy(last, make([]int, d))
		for _, v := range x.l[:d-1] {
			for j := range v {
				last[j] += v[j]
			}
		}
		last[i%d] += i % 3
	}
	return all
}

// far vectors: with numbers at the edge, and determinants that are the greatest
// that there are, or 1.
func far() []given {
	return []given{
		of(1, 20, -20, 19, -19, 0, 1, 20),
		of(2, 20, 19, 19, 18, -20, -19, 20, 20, -20, 20, 18, 17, 0, 0),
		of(3, 20, 20, 20, 20, -20, 20, 20, 20, -20, -20, 20, 20, 20, 19, 20, 19, 20, 19, 20, 19, 18),
		of(4, 20, 20, 20, 20, 20, -20, 20, -20, 20, 20, -20, -20, 20, -20, -20, 20, 20, 19, 18, 17, 19, 18, 17, 16, 20, 19, 19, 20),
		of(4, 20, 20, 20, 20, -20, -20, -20, -20, 20, 20, 20, 19, 20, 20, 19, 20, 20, 19, 20, 20, 19, 20, 20, 20, -19, -19, -19, -19),
	}
}

// curve: points at which a curve of degree d - 1 turns the same way everywhere.
func curve(d int, at ...int) given {
	x := given{d: d}
	for _, t := range at {
		v := []int{1}
		for len(v) < d {
			v = append(v, v[len(v)-1]*t)
		}
		x.l = append(x.l, v)
	}
	return x
}

// ring of three edges, each in its direction.
func ring() given { return of(3, 1, -1, 0, 0, 1, -1, -1, 0, 1) }

// orders of four numbers: which of two is the greater one.
func orders() given {
	return of(4, 1, -1, 0, 0, 1, 0, -1, 0, 1, 0, 0, -1, 0, 1, -1, 0, 0, 1, 0, -1, 0, 0, 1, -1)
}

// known lists: rings, orders, curves, units, multiples of few vectors, noughts.
func known() []given {
	return []given{
		ring(), orders(), curve(3, -3, -2, -1, 0, 1, 2, 3), curve(4, -2, -1, 0, 1, 2), curve(2, 0, 5, -5, 20, -20, 1, 2),
		of(1), of(4), of(1, 0), of(2, 0, 0, 0, 0), of(4, make([]int, 28)...), of(1, 1, 2),
		of(4, 1, 0, 0, 0, 0, 1, 0, 0, 0, 0, 1, 0, 0, 0, 0, 1),
		of(4, 1, 0, 0, 0, 0, 1, 0, 0, 0, 0, 1, 0, 0, 0, 0, 1, -1, -1, -1, -1, 1, 1, 1, 1, 0, 0, 0, 0),
		of(2, 1, 2, 2, 4, -3, -6, 0, 0, 20, -1, 4, 8, -20, 1),
		of(3, 1, 0, 0, 0, 1, 0, 1, 1, 0, 1, -1, 0, 2, 1, 0, 1, 2, 0, 0, 0, 5),
		// The points of a Fano plane, as whole numbers: one line is none.
		of(3, 1, 0, 0, 0, 1, 0, 0, 0, 1, 1, 1, 0, 1, 0, 1, 0, 1, 1, 1, 1, 1),
	}
}
