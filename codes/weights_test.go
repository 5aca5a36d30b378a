package codes_test

import (
	"slices"
	"testing"

	"rota/api"
	"rota/codes"
	"rota/kinds"
	"rota/probe"
)

// word of a matrix; at places that the matrix has not it is 0.
type word [api.MaxGround]int

// weight: how many numbers of w are not 0.
func weight(w word) int {
	n := 0
	for _, v := range w {
		if v != 0 {
			n++
		}
	}
	return n
}

// words of x, by those of P35: all sums of multiples of all rows, each once.
func words(x api.Matrix) map[word]bool {
	all := map[word]bool{{}: true}
	for _, row := range x.Rows {
		sums := map[word]bool{}
		for w := range all {
			for range x.P {
				sums[w] = true
				for i, v := range row {
					w[i] = (w[i] + v) % x.P
				}
			}
		}
		all = sums
	}
	return all
}

// weightsOf words: how many have each weight up to that of so many columns.
func weightsOf(all map[word]bool, cols int) []int {
	l := make([]int, cols+1)
	for w := range all {
		l[weight(w)]++
	}
	return l
}

// matrices: those that the tests share, and some modulo 7 that have 6 rows,
// with and without one that is a sum of others' multiples.
func matrices() []api.Matrix {
	all := append(probe.Matrices(), hamming())
	for cols := 6; cols <= 8; cols++ {
		x := probe.Unit(7, 6, cols)
		x.Rows[2][cols-1] += 3
		all = append(all, x)
		y := probe.Unit(7, 5, cols)
		row := make([]int, cols)
		for i := range y.Rows {
			row[i] = 6 - i
			y.Rows[i][cols-1] += i
			row[cols-1] = (row[cols-1] + row[i]*i) % 7
		}
		y.Rows = slices.Insert(y.Rows, 1, row)
		all = append(all, y)
	}
	return all
}

// TestWeightsAndDistance holds both to the words of P35.
func TestWeightsAndDistance(t *testing.T) {
	large := 0
	for _, x := range matrices() {
		all := words(x)
		if len(all) > 20000 {
			large++
			holdLarge(t, x)
			continue
		}
		want := weightsOf(all, x.Cols)
		if got, e := codes.Weights(x); e != api.OK || !slices.Equal(got, want) {
			t.Errorf("Weights(%v) = %v, %d, want %v", x, got, e, want)
		}
		holdDistance(t, x, slices.IndexFunc(want[1:], func(n int) bool { return n > 0 })+1)
	}
	if large < 3 {
		t.Errorf("%d matrices with too many words", large)
	}
}

// holdLarge: no call of P35 goes through the words of x.
func holdLarge(t *testing.T, x api.Matrix) {
	t.Helper()
	for _, c := range ofMatrices() {
		if got := c.do(x); !isRefusal(got, api.ErrLarge) {
			t.Errorf("%s(%v) = %v, want ErrLarge", c.name, x, got)
		}
	}
}

// holdDistance: 0 stands for none.
func holdDistance(t *testing.T, x api.Matrix, want int) {
	t.Helper()
	n, e := codes.Distance(x)
	if want > 0 && (e != api.OK || n != want) || want == 0 && (e != api.ErrNone || n != 0) {
		t.Errorf("Distance(%v) = %d, %d, want %d", x, n, e, want)
	}
}

func holdCritical(t *testing.T, x api.Matrix, want int, wantE api.Errno) {
	t.Helper()
	if n, e := codes.Critical(x); e != wantE || n != want {
		t.Errorf("Critical(%v) = %d, %d, want %d, %d", x, n, e, want, wantE)
	}
}

// places: the sets of places at which a word is not 0, none twice.
func places(all map[word]bool) []int {
	var is [1 << api.MaxGround]bool
	for w := range all {
		s := 0
		for i, v := range w {
			if v != 0 {
				s |= 1 << i
			}
		}
		is[s] = true
	}
	var l []int
	for s, yes := range is {
		if yes {
			l = append(l, s)
		}
	}
	return l
}

// canReach: are there c sets of l that have all of these places together?
func canReach(l []int, c, left int) bool {
	if left == 0 {
		return true
	}
	return c > 0 && slices.ContainsFunc(l, func(s int) bool { return s&left != 0 && canReach(l, c-1, left&^s) })
}

// TestCritical tries each list of one word, of two, and so on. More than one
// for each place are of no use.
func TestCritical(t *testing.T) {
	for _, x := range matrices() {
		all := words(x)
		if len(all) > 20000 {
			continue
		}
		l, whole := places(all), 1<<x.Cols-1
		union := 0
		for _, s := range l {
			union |= s
		}
		if union != whole {
			holdCritical(t, x, 0, api.ErrNone)
			continue
		}
		want := 0
		for !canReach(l, want, whole) {
			want++
		}
		holdCritical(t, x, want, api.OK)
	}
}

// characteristic of m at q, by the words of P21.
func characteristic(m api.Matroid, q int) int {
	sum := 0
	for s := range 1 << m.N {
		term := 1
		for range probe.Rank(m, 1<<m.N-1) - probe.Rank(m, s) {
			term *= q
		}
		if len(probe.Elements(s))%2 == 1 {
			term = -term
		}
		sum += term
	}
	return sum
}

// TestCrapoAndRota: the least c for which the Characteristic of the Linear of x,
// at P to the power of c, is not 0; of loops it is 0 at all.
func TestCrapoAndRota(t *testing.T) {
	seen := map[int]int{}
	for _, x := range matrices() {
		c, e := codes.Critical(x)
		if e == api.ErrLarge {
			continue
		}
		m, _ := kinds.Linear(x)
		q := 1
		for range c {
			if n := characteristic(m, q); n != 0 {
				t.Errorf("Critical(%v) = %d, but at %d there is %d", x, c, q, n)
			}
			q *= x.P
		}
		if n := characteristic(m, q); (n != 0) != (e == api.OK) {
			t.Errorf("Critical(%v) = %d, %d, but at %d there is %d", x, c, e, q, n)
		}
		if e == api.OK {
			seen[c]++
		}
	}
	if seen[0] == 0 || seen[1] == 0 || seen[2] == 0 || seen[3] == 0 {
		t.Errorf("how often there was which: %v", seen)
	}
}

// hamming: each column but noughts modulo 2, of three numbers.
func hamming() api.Matrix {
	return probe.MatrixOf(2, 7, 1, 0, 1, 0, 1, 0, 1, 0, 1, 1, 0, 0, 1, 1, 0, 0, 0, 1, 1, 1, 1)
}

// TestWordsByHand holds answers that were found by hand.
func TestWordsByHand(t *testing.T) {
	for _, x := range []struct {
		x                  api.Matrix
		weights            []int
		distance, critical int // 0 and -1 for none
	}{
		{api.Matrix{P: 2}, []int{1}, 0, 0},
		{api.Matrix{P: 7, Rows: make([][]int, 6)}, []int{1}, 0, 0},
		{api.Matrix{P: 5, Cols: 3}, []int{1, 0, 0, 0}, 0, -1},
		{probe.MatrixOf(3, 8, make([]int, 48)...), []int{1, 0, 0, 0, 0, 0, 0, 0, 0}, 0, -1},
		{probe.MatrixOf(2, 1, 0), []int{1, 0}, 0, -1},
		{probe.MatrixOf(2, 1, 1), []int{1, 1}, 1, 1},
		{probe.MatrixOf(7, 1, 3), []int{1, 6}, 1, 1},
		{probe.MatrixOf(2, 2, 1, 1), []int{1, 0, 1}, 2, 1},
		{probe.MatrixOf(2, 2, 1, 1, 1, 1), []int{1, 0, 1}, 2, 1},
		{probe.MatrixOf(3, 2, 1, 2, 2, 1), []int{1, 0, 2}, 2, 1},
		{probe.MatrixOf(2, 2, 1, 0), []int{1, 1, 0}, 1, -1},
		{probe.MatrixOf(5, 3, 0, 1, 4), []int{1, 0, 4, 0}, 2, -1},
		// Of the sums of 1 0 1 and 0 1 1 each is 0 somewhere.
		{probe.MatrixOf(2, 3, 1, 0, 1, 0, 1, 1), []int{1, 0, 3, 0}, 2, 2},
		{probe.MatrixOf(3, 3, 1, 0, 1, 0, 1, 1), []int{1, 0, 6, 2}, 2, 1},
		{probe.MatrixOf(3, 4, 1, 0, 1, 1, 0, 1, 1, 2), []int{1, 0, 0, 8, 0}, 3, 2},
		{probe.MatrixOf(7, 8, 1, 0, 1, 1, 1, 1, 1, 1, 0, 1, 1, 2, 3, 4, 5, 6), []int{1, 0, 0, 0, 0, 0, 0, 48, 0}, 7, 2},
		{hamming(), []int{1, 0, 0, 0, 7, 0, 0, 0}, 4, 3},
		{probe.Unit(2, 6, 6), []int{1, 6, 15, 20, 15, 6, 1}, 1, 1},
		{probe.Unit(5, 6, 6), []int{1, 24, 240, 1280, 3840, 6144, 4096}, 1, 1},
		{probe.Unit(7, 5, 5), []int{1, 30, 360, 2160, 6480, 7776}, 1, 1},
		{probe.Unit(7, 5, 8), []int{1, 30, 360, 2160, 6480, 7776, 0, 0, 0}, 1, -1},
	} {
		if got, e := codes.Weights(x.x); e != api.OK || !slices.Equal(got, x.weights) {
			t.Errorf("Weights(%v) = %v, %d, want %v", x.x, got, e, x.weights)
		}
		holdDistance(t, x.x, x.distance)
		if x.critical < 0 {
			holdCritical(t, x.x, 0, api.ErrNone)
		} else {
			holdCritical(t, x.x, x.critical, api.OK)
		}
	}
}

// TestManyWords: only 7 to the power of 6 are too many, be there no columns left
// or one of noughts; it is the words that count, not the rows.
func TestManyWords(t *testing.T) {
	for _, p := range []int{2, 3, 5, 7} {
		for rows := range 7 {
			for cols := rows; cols <= 8; cols++ {
				x := probe.Unit(p, rows, cols)
				if p == 7 && rows == 6 {
					holdLarge(t, x)
				} else if _, e := codes.Weights(x); e != api.OK {
					t.Errorf("Weights(%v): %d", x, e)
				}
			}
		}
	}
	x := probe.Unit(7, 6, 6)
	x.Rows[5] = []int{1, 2, 3, 4, 5, 0}
	if got, e := codes.Weights(x); e != api.OK || !slices.Equal(got, []int{1, 30, 360, 2160, 6480, 7776, 0}) {
		t.Errorf("Weights(%v) = %v, %d", x, got, e)
	}
	holdDistance(t, x, 1)
	holdCritical(t, x, 0, api.ErrNone)
}
