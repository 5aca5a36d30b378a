package orient_test

import (
	"math"
	"slices"
	"testing"

	"rota/api"
	"rota/orient"
	"rota/probe"
)

// answer of any call of the package but Check.
type answer struct {
	m     api.Matroid
	signs []api.Signs
	rows  [][]int
	is    bool
	e     api.Errno
}

// told: all that is in an answer but signs.
func told(x answer) []int {
	is := 0
	if x.is {
		is = 1
	}
	return append(slices.Concat(append(x.rows, x.m.Bases)...), x.m.N, len(x.rows), is, int(x.e))
}

func isRefusal(x answer, e api.Errno) bool {
	return x.e == e && x.m.N == 0 && len(x.m.Bases) == 0 && len(x.signs) == 0 && len(x.rows) == 0 && !x.is
}

// call of vectors, and of a set, if it takes one.
type call struct {
	name string
	do   func(d int, l [][]int, s int) answer
}

func ofSigns(name string, do func(d int, l [][]int) ([]api.Signs, api.Errno)) call {
	return call{name, func(d int, l [][]int, _ int) answer {
		signs, e := do(d, l)
		return answer{signs: signs, e: e}
	}}
}

func turn() call {
	return call{"Turn", func(d int, l [][]int, s int) answer {
		rows, e := orient.Turn(d, l, s)
		return answer{rows: rows, e: e}
	}}
}

func calls() []call {
	return []call{
		{"Matroid", func(d int, l [][]int, _ int) answer {
			m, e := orient.Matroid(d, l)
			return answer{m: m, e: e}
		}},
		ofSigns("Circuits", orient.Circuits), ofSigns("Cocircuits", orient.Cocircuits), ofSigns("Topes", orient.Topes),
		turn(),
		{"Acyclic", func(d int, l [][]int, _ int) answer {
			is, e := orient.Acyclic(d, l)
			return answer{is: is, e: e}
		}},
	}
}

// refused: what is no list of vectors, and how that is told.
type refused struct {
	given
	want api.Errno
}

// ones: a vector of d numbers.
func ones(d int) []int { return slices.Repeat([]int{1}, max(d, 0)) }

// wrongVectors of d numbers: too few, too many, and one that is too far off,
// wherever it stands.
func wrongVectors(d int) [][]int {
	wrong := [][]int{nil, {}, ones(d - 1), ones(d + 1), make([]int, d-1), make([]int, d+1), make([]int, 1<<16)}
	for _, v := range append(probe.Wide(), -21, 21, -1000, 1000, 1<<32, 1<<32+1) {
		if v >= -20 && v <= 20 {
			continue
		}
		for i := range d {
			one, only := ones(d), make([]int, d)
			one[i], only[i] = v, v
			wrong = append(wrong, one, only)
		}
	}
	return wrong
}

// refusals: of how many numbers there are, of a vector, which comes ahead of how
// many vectors there are, and of too many.
func refusals() []refused {
	var all []refused
	for _, d := range append(probe.Wide(), 4, 5, -2, -4, 1+1<<32) {
		if d >= 1 && d <= 4 {
			continue
		}
		all = append(all, refused{given{d, nil}, api.ErrArg}, refused{given{d, [][]int{nil}}, api.ErrArg})
		for k := range 6 {
			all = append(all, refused{given{d, [][]int{ones(k)}}, api.ErrArg})
			all = append(all, refused{given{d, slices.Repeat([][]int{ones(k)}, 8)}, api.ErrArg})
		}
	}
	for d := 1; d <= 4; d++ {
		for _, v := range wrongVectors(d) {
			for _, many := range []int{0, 1, 6, 7, 8, 20} {
				l := slices.Repeat([][]int{ones(d)}, many)
				all = append(all, refused{given{d, append([][]int{v}, l...)}, api.ErrArg})
				all = append(all, refused{given{d, append(slices.Clone(l), v)}, api.ErrArg})
			}
		}
		for _, many := range []int{8, 9, 64, 1 << 16} {
			all = append(all, refused{given{d, slices.Repeat([][]int{ones(d)}, many)}, api.ErrLarge})
			all = append(all, refused{given{d, slices.Repeat([][]int{make([]int, d)}, many)}, api.ErrLarge})
		}
	}
	return all
}

// isLong: is a list too long to be shown, or to be copied again and again?
func isLong(v []int) bool { return len(v) > 9 }

// brief: the beginning of a list.
func brief(l [][]int) [][]int {
	return slices.DeleteFunc(slices.Clone(l[:min(len(l), 9)]), isLong)
}

// TestRefusals: what is said of vectors is ahead of what is said of a set.
func TestRefusals(t *testing.T) {
	for _, x := range refusals() {
		if e := orient.Check(x.d, x.l); e != x.want {
			t.Errorf("Check(%d, %v) = %d, want %d", x.d, brief(x.l), e, x.want)
		}
		for _, c := range calls() {
			for _, s := range []int{0, 1, -1, 1 << 20} {
				if got := c.do(x.d, x.l, s); !isRefusal(got, x.want) {
					t.Errorf("%s(%d, %v, %d) = %v, want %d", c.name, x.d, brief(x.l), s, got.e, x.want)
				}
			}
		}
	}
}

// TestNoSet: what has other elements than the vectors can not be turned.
func TestNoSet(t *testing.T) {
	for d := 1; d <= 4; d++ {
		for many := range 8 {
			l := slices.Repeat([][]int{ones(d)}, many)
			for _, s := range append(probe.Wide(), 1<<many, 1<<many-1, -1<<many, 1+1<<many, 1+1<<32) {
				got := turn().do(d, l, s)
				if s >= 0 && s < 1<<many {
					if got.e != api.OK || len(got.rows) != many {
						t.Errorf("Turn(%d, %v, %d) = %v", d, l, s, got)
					}
				} else if !isRefusal(got, api.ErrArg) {
					t.Errorf("Turn(%d, %v, %d) = %v", d, l, s, got)
				}
			}
		}
	}
}

// TestAccepted: what is at the edge is none beyond it.
func TestAccepted(t *testing.T) {
	all := some()
	for d := 1; d <= 4; d++ {
		for many := range 8 {
			all = append(all, given{d, slices.Repeat([][]int{ones(d)}, many)}, given{d, slices.Repeat([][]int{make([]int, d)}, many)})
		}
		for i := range d {
			for _, v := range []int{-20, -19, 0, 19, 20} {
				one := ones(d)
				one[i] = v
				all = append(all, given{d, [][]int{one}})
			}
		}
	}
	for _, x := range all {
		if e := orient.Check(x.d, x.l); e != api.OK {
			t.Errorf("Check(%v) = %d", x, e)
		}
		for _, c := range calls() {
			if got := c.do(x.d, x.l, 0); got.e != api.OK {
				t.Errorf("%s(%v) = %v", c.name, x, got)
			}
		}
	}
}

// TestNoPanic is P1: a panic in any of these calls ends the test.
func TestNoPanic(t *testing.T) {
	callAll := func(d int, l [][]int, s int) {
		orient.Check(d, l)
		for _, c := range calls() {
			c.do(d, l, s)
		}
	}
	for _, d := range append(probe.Wide(), 4, 5, math.MinInt+2) {
		for _, l := range probe.Lists() {
			callAll(d, [][]int{l}, d)
			callAll(d, [][]int{l, l, nil}, 1)
			callAll(len(l), [][]int{l, l}, d)
		}
	}
	for d := 1; d <= 4; d++ {
		for _, a := range probe.Wide() {
			for _, b := range probe.Wide() {
				row := []int{a, b, 1, 0}
				callAll(d, [][]int{row[:d], row[4-d:]}, a)
			}
		}
	}
}

// TestMemory is P2.
func TestMemory(t *testing.T) {
	all := some()
	for i, x := range refusals() {
		if len(x.l) < 10 && i%7 == 0 && !slices.ContainsFunc(x.l, isLong) {
			all = append(all, x.given)
		}
	}
	for _, x := range all {
		for _, c := range calls() {
			for _, s := range []int{0, 1, 1<<len(x.l) - 1} {
				if broken := holdMemory(x, func(l [][]int) answer { return c.do(x.d, l, s) }); broken != "" {
					t.Errorf("%s(%v, %d) %s", c.name, x, s, broken)
				}
			}
		}
		if broken := probe.MemoryOfRows(x.l, -1, func(l [][]int) []int { return []int{int(orient.Check(x.d, l))} }); broken != "" {
			t.Errorf("Check(%v) %s", x, broken)
		}
	}
}

// holdMemory of a call to P2, list by list, and tell what it breaks.
func holdMemory(x given, do func(l [][]int) answer) string {
	first, second := do(x.l), do(x.l)
	broken := []string{
		probe.MemoryOfRows(x.l, -77, func(l [][]int) []int { return told(do(l)) }),
		probe.MemoryOfRows(x.l, -77, func(l [][]int) []int { return do(l).m.Bases }),
		probe.MemoryOfRows(x.l, api.Signs{Above: -1}, func(l [][]int) []api.Signs { return do(l).signs }),
	}
	for i := range first.rows {
		broken = append(broken, probe.MemoryOfRows(x.l, -77, func(l [][]int) []int { return do(l).rows[i] }))
	}
	if !probe.RowsApart(first.rows, second.rows) {
		broken = append(broken, "answers rows that are not apart")
	}
	for _, text := range broken {
		if text != "" {
			return text
		}
	}
	return ""
}

// TestOneVector: a vector that is handed in several times is not taken for its
// copies.
func TestOneVector(t *testing.T) {
	v := []int{1, -2}
	x := given{2, [][]int{v, v, v}}
	hold(t, x)
	if got, e := orient.Turn(2, x.l, 2); e != api.OK || !slices.EqualFunc(got, [][]int{{1, -2}, {-1, 2}, {1, -2}}, slices.Equal[[]int]) {
		t.Errorf("Turn = %v, %d", got, e)
	}
	if !slices.Equal(v, []int{1, -2}) {
		t.Errorf("the vector has become %v", v)
	}
}
