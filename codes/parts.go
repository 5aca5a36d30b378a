package codes

import (
	"rota/api"
	"rota/field"
	"rota/kinds"
	"rota/sets"
	"rota/wide"
)

// mostWords are gone through; and so many Dual takes of one weight.
const mostWords = 20000

// word of a matrix; at places that the matrix has not it is 0.
type word [api.MaxGround]int

// plus a row, modulo p.
func (w word) plus(p int, row []int) word {
	for i, v := range row {
		w[i] = (w[i] + v) % p
	}
	return w
}

// places at which w is not 0.
func (w word) places() int {
	s := 0
	for i, v := range w {
		if v != 0 {
			s |= 1 << i
		}
	}
	return s
}

// words of x, each once, since no reduced row is a sum of others' multiples.
func words(x api.Matrix) ([]word, api.Errno) {
	reduced, e := field.Reduced(x)
	if e != api.OK {
		return nil, e
	}
	all := []word{{}}
	for _, row := range reduced.Rows {
		if len(all)*x.P > mostWords {
			return nil, api.ErrLarge
		}
		// Behind those that there are come those with the row once; behind
		// these, since they have their turn too, those with it twice; and so on.
		for i := range len(all) * (x.P - 1) {
			all = append(all, all[i].plus(x.P, row))
		}
	}
	return all, api.OK
}

// countByPlaces: for each set of columns how many words are not 0 just there.
func countByPlaces(x api.Matrix) ([]int, api.Errno) {
	all, e := words(x)
	if e != api.OK {
		return nil, e
	}
	counts := make([]int, 1<<x.Cols)
	for _, w := range all {
		counts[w.places()]++
	}
	return counts, api.OK
}

// unions of each set of the one family with each of the other, rising.
func unions(n int, l, others []int) []int {
	var comes [1 << api.MaxGround]bool
	for _, a := range l {
		for _, b := range others {
			comes[a|b] = true
		}
	}
	return sets.Sieve(n, func(s int) bool { return comes[s] })
}

// isModulus: can a matrix be reckoned modulo p? That of nothing is one, if any
// is.
func isModulus(p int) bool { return kinds.CheckMatrix(api.Matrix{P: p}) == api.OK }

// areNumbers: can l say, of each weight from 0 on, how many words have it?
func areNumbers(l []int) bool {
	if len(l) < 1 || len(l) > api.MaxGround+1 {
		return false
	}
	for _, number := range l {
		if number < 0 || number > mostWords {
			return false
		}
	}
	return true
}

// polynomial in z: its coefficients, from that of z to the power of 0 on.
type polynomial [api.MaxGround + 1]wide.Int

// plus so many times g.
func (f polynomial) plus(times wide.Int, g polynomial) polynomial {
	for i, c := range g {
		f[i] = f[i].Plus(times.Times(c))
	}
	return f
}

// times a + bz. Who calls knows that there is room.
func (f polynomial) times(a, b int) polynomial {
	var g polynomial
	for i, c := range f {
		g[i] = g[i].Plus(c.Times(wide.Of(a)))
		if i+1 < len(g) {
			g[i+1] = c.Times(wide.Of(b))
		}
	}
	return g
}

// product of 1 - z to the power of i, 1 + (p - 1) z to that of j, and z to that
// of k. The powers are 8 together at most.
func product(p, i, j, k int) polynomial {
	f := polynomial{wide.Of(1)}
	for range i {
		f = f.times(1, -1)
	}
	for range j {
		f = f.times(1, p-1)
	}
	for range k {
		f = f.times(0, 1)
	}
	return f
}

// written: the text of each number.
func written(l []wide.Int, text func(wide.Int) string) []string {
	texts := make([]string, 0, len(l))
	for _, c := range l {
		texts = append(texts, text(c))
	}
	return texts
}
