package arrange_test

import (
	"math"
	"slices"
	"testing"

	"rota/api"
	"rota/arrange"
	"rota/probe"
)

// answer of any call of the package but Check.
type answer struct {
	powers []int64
	sides  []api.Signs
	faces  []int
	a, b   int
	e      api.Errno
}

// told: what is in an answer beside its lists.
func told(x answer) []int { return []int{x.a, x.b, int(x.e)} }

func isRefusal(x answer, e api.Errno) bool {
	return x.e == e && len(x.powers) == 0 && len(x.sides) == 0 && len(x.faces) == 0 && x.a == 0 && x.b == 0
}

type call struct {
	name string
	do   func(d int, l []api.Plane) answer
}

func calls() []call {
	return []call{
		{"Characteristic", func(d int, l []api.Plane) answer {
			powers, e := arrange.Characteristic(d, l)
			return answer{powers: powers, e: e}
		}},
		{"Regions", func(d int, l []api.Plane) answer {
			a, b, e := arrange.Regions(d, l)
			return answer{a: a, b: b, e: e}
		}},
		{"Sides", func(d int, l []api.Plane) answer {
			sides, e := arrange.Sides(d, l)
			return answer{sides: sides, e: e}
		}},
		{"Faces", func(d int, l []api.Plane) answer {
			faces, e := arrange.Faces(d, l)
			return answer{faces: faces, e: e}
		}},
	}
}

// refused: what is no list of planes, and how that is told.
type refused struct {
	given
	want api.Errno
}

// unit: a plane of d coordinates.
func unit(d int) api.Plane {
	p := api.Plane{Normal: make([]int, max(d, 0))}
	for i := range p.Normal {
		p.Normal[i] = 1
	}
	return p
}

// wrongPlanes in a space of d coordinates: too few numbers, too many, none but
// 0, and one that is too far off, wherever it stands.
func wrongPlanes(d int) []api.Plane {
	wrong := []api.Plane{
		{}, {At: 1}, {Normal: []int{}}, {Normal: make([]int, d)}, {Normal: make([]int, d), At: 1000},
		unit(d - 1), unit(d + 1), {Normal: append(make([]int, d), 1)}, {Normal: make([]int, 1<<16)},
	}
	for _, v := range append(probe.Wide(), -1001, 1001, 1<<32, 1<<32+1) {
		if v >= -1000 && v <= 1000 {
			continue
		}
		p := unit(d)
		p.At = v
		wrong = append(wrong, p)
		for i := range d {
			p := unit(d)
			p.Normal[i] = v
			only := api.Plane{Normal: make([]int, d)}
			only.Normal[i] = v
			wrong = append(wrong, p, only)
		}
	}
	return wrong
}

// refusals: of spaces, of a plane, which comes ahead of how many there are, and
// of too many.
func refusals() []refused {
	var all []refused
	for _, d := range append(probe.Wide(), 4, 5, -2, -3, 1+1<<32) {
		if d >= 1 && d <= 3 {
			continue
		}
		all = append(all, refused{given{d, nil}, api.ErrArg}, refused{given{d, []api.Plane{{}}}, api.ErrArg})
		for k := range 5 {
			all = append(all, refused{given{d, []api.Plane{unit(k)}}, api.ErrArg})
			all = append(all, refused{given{d, slices.Repeat([]api.Plane{unit(k)}, 7)}, api.ErrArg})
		}
	}
	for d := 1; d <= 3; d++ {
		for _, p := range wrongPlanes(d) {
			for _, many := range []int{0, 1, 5, 6, 7, 20} {
				l := slices.Repeat([]api.Plane{unit(d)}, many)
				all = append(all, refused{given{d, append([]api.Plane{p}, l...)}, api.ErrArg})
				all = append(all, refused{given{d, append(slices.Clone(l), p)}, api.ErrArg})
			}
		}
		for _, many := range []int{7, 8, 9, 64, 1 << 16} {
			all = append(all, refused{given{d, slices.Repeat([]api.Plane{unit(d)}, many)}, api.ErrLarge})
		}
	}
	return all
}

func TestRefusals(t *testing.T) {
	for _, x := range refusals() {
		if e := arrange.Check(x.d, x.l); e != x.want {
			t.Errorf("Check(%d, %.60v) = %d, want %d", x.d, x.l[:min(len(x.l), 8)], e, x.want)
		}
		for _, c := range calls() {
			if got := c.do(x.d, x.l); !isRefusal(got, x.want) {
				t.Errorf("%s(%d, %v) = %v, want %d", c.name, x.d, x.l[:min(len(x.l), 8)], got, x.want)
			}
		}
	}
}

// all lists of planes that the tests here go through.
func all() []given {
	return slices.Concat(known(), hadamard(), jumpPlanes(1, 2, 20), jumpPlanes(2, 2, 20), jumpPlanes(3, 1000, 10))
}

// TestAccepted: what is at the edge is none beyond it.
func TestAccepted(t *testing.T) {
	some := all()
	for d := 1; d <= 3; d++ {
		for many := range 7 {
			some = append(some, given{d, slices.Repeat([]api.Plane{unit(d)}, many)})
		}
		for i := range d + 1 {
			for _, v := range []int{-1000, -999, 0, 999, 1000} {
				row := append(slices.Clone(unit(d).Normal), 1)
				row[i] = v
				if !isNought(row[:d]) {
					some = append(some, given{d, planes(d, row...)})
				}
			}
		}
	}
	for _, x := range some {
		if e := arrange.Check(x.d, x.l); e != api.OK {
			t.Errorf("Check(%v) = %d", x, e)
		}
		for _, c := range calls() {
			if got := c.do(x.d, x.l); got.e != api.OK {
				t.Errorf("%s(%v) = %v", c.name, x, got)
			}
		}
	}
}

// TestNoPanic is P1: a panic in any of these calls ends the test.
func TestNoPanic(t *testing.T) {
	callAll := func(d int, l []api.Plane) {
		arrange.Check(d, l)
		for _, c := range calls() {
			c.do(d, l)
		}
	}
	for _, d := range append(probe.Wide(), math.MinInt+2) {
		for _, l := range probe.Lists() {
			callAll(d, []api.Plane{{Normal: l}})
			callAll(d, []api.Plane{{Normal: l, At: d}, {Normal: l}, {}})
			callAll(len(l), []api.Plane{{Normal: l, At: d}, {Normal: l}})
		}
	}
	for d := 1; d <= 3; d++ {
		for _, a := range probe.Wide() {
			for _, b := range probe.Wide() {
				row := []int{a, b, 1, 0}
				callAll(d, []api.Plane{{Normal: row[:d], At: b}, {Normal: row[4-d:], At: a}})
			}
		}
	}
}

// TestMemory is P2.
func TestMemory(t *testing.T) {
	some := all()
	for _, x := range refusals() {
		if len(x.l) < 9 && len(x.l)%3 == 1 {
			some = append(some, x.given)
		}
	}
	for _, x := range some {
		for _, c := range calls() {
			for _, broken := range []string{
				probe.MemoryOfPlanes(x.l, -1, func(l []api.Plane) []int { return told(c.do(x.d, l)) }),
				probe.MemoryOfPlanes(x.l, 1<<40, func(l []api.Plane) []int64 { return c.do(x.d, l).powers }),
				probe.MemoryOfPlanes(x.l, -1, func(l []api.Plane) []int { return c.do(x.d, l).faces }),
				probe.MemoryOfPlanes(x.l, api.Signs{Above: -1}, func(l []api.Plane) []api.Signs { return c.do(x.d, l).sides }),
				probe.MemoryOfPlanes(x.l, -1, func(l []api.Plane) []int { return []int{int(arrange.Check(x.d, l))} }),
			} {
				if broken != "" {
					t.Errorf("%s(%v) %s", c.name, x, broken)
				}
			}
		}
	}
}

// TestOneNormal: a Normal that is handed in for several planes is not taken for
// their copies.
func TestOneNormal(t *testing.T) {
	normal := []int{1, -2}
	l := []api.Plane{{Normal: normal}, {Normal: normal, At: 1}, {Normal: normal}}
	hold(t, given{2, l})
	if !slices.Equal(normal, []int{1, -2}) {
		t.Errorf("the Normal has become %v", normal)
	}
}
