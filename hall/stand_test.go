package hall_test

import (
	"testing"

	"rota/api"
	"rota/probe"
)

// size of s, counted.
func size(s int) int { return len(probe.Elements(s)) }

// standing: Stand's answer, if each set of elements that may stand does so; all
// lists are tried, in their order.
func standing(l []int, may func(s int) bool) answer {
	var found []int
	var try func(taken int) bool
	try = func(taken int) bool {
		if len(found) == len(l) {
			return true
		}
		for _, x := range probe.Elements(l[len(found)]) {
			if taken>>x&1 == 1 || !may(taken|1<<x) {
				continue
			}
			found = append(found, x)
			if try(taken | 1<<x) {
				return true
			}
			found = found[:len(found)-1]
		}
		return false
	}
	if !try(0) {
		return none()
	}
	return answer{l: found}
}

func mayAll(int) bool { return true }

// mostOf l for which elements can stand beside those that are taken; all ways
// are tried.
func mostOf(l []int, taken int) int {
	if len(l) == 0 {
		return 0
	}
	n := mostOf(l[1:], taken)
	for _, x := range probe.Elements(l[0]) {
		if taken>>x&1 == 0 {
			n = max(n, 1+mostOf(l[1:], taken|1<<x))
		}
	}
	return n
}

// together: the elements that the sets at these places have.
func together(l []int, places int) int {
	s := 0
	for _, i := range probe.Elements(places) {
		s |= l[i]
	}
	return s
}

// barring: Bar's answer, by what sets come to; all sets of places are tried.
func barring(l []int, worth func(s int) int) answer {
	for places := range 1 << len(l) {
		if worth(together(l, places)) < size(places) {
			return answer{n: places}
		}
	}
	return none()
}

// areLines: is each element of each set in columns, or its set's place in rows?
func areLines(l []int, rows, columns int) bool {
	for i, s := range l {
		if rows>>i&1 == 0 && s&^columns != 0 {
			return false
		}
	}
	return true
}

// fewestLines: Lines' answer; all pairs are tried.
func fewestLines(n int, l []int) answer {
	var found answer
	fewest := n + len(l) + 1
	for rows := range 1 << len(l) {
		for columns := range 1 << n {
			if size(rows)+size(columns) < fewest && areLines(l, rows, columns) {
				found, fewest = answer{n: rows, more: columns}, size(rows)+size(columns)
			}
		}
	}
	return found
}

func TestStand(t *testing.T) {
	for _, x := range probe.SetLists() {
		hold(t, stand(), x, standing(x.L, mayAll))
	}
}

func TestBar(t *testing.T) {
	for _, x := range probe.SetLists() {
		hold(t, bar(), x, barring(x.L, size))
	}
}

func TestMost(t *testing.T) {
	for _, x := range probe.SetLists() {
		hold(t, most(), x, answer{n: mostOf(x.L, 0)})
	}
}

func TestLines(t *testing.T) {
	for _, x := range probe.SetLists() {
		hold(t, lines(), x, fewestLines(x.N, x.L))
	}
}

func TestCheck(t *testing.T) {
	for _, x := range probe.SetLists() {
		hold(t, check(), x, answer{})
	}
}

// TestBarred: by Hall there is either a list that stands or a bar, and by Koenig
// there are as many lines as elements that can stand. There are lists enough of
// either kind.
func TestBarred(t *testing.T) {
	barred, free := 0, 0
	for _, x := range probe.SetLists() {
		list, b := stand().do(x.N, x.L), bar().do(x.N, x.L)
		many, cover := most().do(x.N, x.L), lines().do(x.N, x.L)
		if (list.e == api.OK) == (b.e == api.OK) || (list.e == api.OK) != (many.n == len(x.L)) {
			t.Errorf("%d, %v: Stand is %v, Bar %v, Most %v", x.N, x.L, list, b, many)
		}
		if size(cover.n)+size(cover.more) != many.n {
			t.Errorf("%d, %v: Lines are %v, Most %v", x.N, x.L, cover, many)
		}
		if len(x.L) > 3 && b.e == api.OK {
			barred++
		} else if len(x.L) > 3 {
			free++
		}
	}
	if barred < 100 || free < 100 {
		t.Errorf("of many sets %d lists are barred, %d are not", barred, free)
	}
}

// TestByHand holds answers that were found by hand.
func TestByHand(t *testing.T) {
	each := []int{1, 2, 4, 8, 16, 32, 64, 128}
	for _, x := range []struct {
		n          int
		l          []int
		stand, bar answer
		most       int
		lines      answer
	}{
		{0, nil, answer{}, none(), 0, answer{}},
		{8, nil, answer{}, none(), 0, answer{}},
		{0, []int{0}, none(), answer{n: 1}, 0, answer{}},
		{0, make([]int, 8), none(), answer{n: 1}, 0, answer{}},
		{1, []int{1}, answer{l: []int{0}}, none(), 1, answer{more: 1}},
		{2, []int{3, 1}, answer{l: []int{1, 0}}, none(), 2, answer{more: 3}},
		{2, []int{1, 3}, answer{l: []int{0, 1}}, none(), 2, answer{more: 3}},
		{2, []int{3, 3}, answer{l: []int{0, 1}}, none(), 2, answer{more: 3}},
		{2, []int{1, 1}, none(), answer{n: 3}, 1, answer{more: 1}},
		{2, []int{3, 3, 3}, none(), answer{n: 7}, 2, answer{more: 3}},
		// One set has more elements than there are places: so its place is a line.
		{3, []int{7}, answer{l: []int{0}}, none(), 1, answer{n: 1}},
		{3, []int{7, 1, 1}, none(), answer{n: 6}, 2, answer{n: 1, more: 1}},
		{3, []int{1, 7, 1}, none(), answer{n: 5}, 2, answer{n: 2, more: 1}},
		{3, []int{3, 6, 5}, answer{l: []int{0, 1, 2}}, none(), 3, answer{more: 7}},
		{3, []int{5, 6, 3}, answer{l: []int{0, 2, 1}}, none(), 3, answer{more: 7}},
		// The empty set has nobody, and is a bar of its own.
		{3, []int{7, 0}, none(), answer{n: 2}, 1, answer{n: 1}},
		{3, []int{1, 1, 0}, none(), answer{n: 3}, 1, answer{more: 1}},
		// The first takes the last that it has, so that the others find theirs.
		{4, []int{15, 1, 3, 7}, answer{l: []int{3, 0, 1, 2}}, none(), 4, answer{more: 15}},
		// The least set of places is not that of the fewest.
		{4, []int{1, 1, 0, 15}, none(), answer{n: 3}, 2, answer{n: 8, more: 1}},
		{8, []int{3, 3, 3, 0}, none(), answer{n: 7}, 2, answer{more: 3}},
		{8, each, answer{l: []int{0, 1, 2, 3, 4, 5, 6, 7}}, none(), 8, answer{more: 255}},
		{8, []int{128, 64, 32, 16, 8, 4, 2, 1}, answer{l: []int{7, 6, 5, 4, 3, 2, 1, 0}}, none(), 8, answer{more: 255}},
		{8, []int{255, 255, 255, 255, 255, 255, 255, 255}, answer{l: []int{0, 1, 2, 3, 4, 5, 6, 7}}, none(), 8, answer{more: 255}},
		{8, []int{255, 127, 63, 31, 15, 7, 3, 1}, answer{l: []int{7, 6, 5, 4, 3, 2, 1, 0}}, none(), 8, answer{more: 255}},
		{8, []int{127, 127, 127, 127, 127, 127, 127, 127}, none(), answer{n: 255}, 7, answer{more: 127}},
		{8, []int{255, 255, 255, 1, 1}, none(), answer{n: 24}, 4, answer{n: 7, more: 1}},
	} {
		sets := probe.SetList{N: x.n, L: x.l}
		hold(t, check(), sets, answer{})
		hold(t, stand(), sets, x.stand)
		hold(t, bar(), sets, x.bar)
		hold(t, most(), sets, answer{n: x.most})
		hold(t, lines(), sets, x.lines)
	}
}
