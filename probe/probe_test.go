package probe_test

import (
	"slices"
	"testing"

	"rota/api"
	"rota/probe"
)

func TestMemoryTells(t *testing.T) {
	l := []int{1, 2, 3}
	var once, held []int
	for _, x := range []struct {
		want string
		do   func(l []int) []int
	}{
		{"", slices.Clone[[]int]},
		{"", func([]int) []int { return nil }},
		{"changes what is handed in", func(l []int) []int { l[1] = 7; return nil }},
		{"changes what is handed in", func(l []int) []int { _ = append(l, 7); return nil }},
		{"answers memory that was handed in", func(l []int) []int { return l[1:] }},
		{"answers memory that was handed in", func(l []int) []int { return l[len(l):] }},
		{"hangs on earlier answers", func(l []int) []int {
			if once == nil {
				once = slices.Clone(l)
			}
			return once
		}},
		{"hangs on earlier answers", func([]int) []int { held = append(held, 1); return slices.Clone(held) }},
	} {
		if told := probe.Memory(l, x.do); told != x.want {
			t.Errorf("told %q, want %q", told, x.want)
		}
	}
}

func TestMemoryOfLongNumbersTells(t *testing.T) {
	once := []int64{1, 2, 3}
	if told := probe.Memory([]int{1}, func([]int) []int64 { return slices.Clone(once) }); told != "" {
		t.Errorf("told %q", told)
	}
	if told := probe.Memory([]int{1}, func([]int) []int64 { return once }); told != "hangs on earlier answers" {
		t.Errorf("told %q", told)
	}
}

func TestApart(t *testing.T) {
	room := make([]int64, 10)
	for _, x := range []struct {
		lists [][]int64
		want  bool
	}{
		{nil, true},
		{[][]int64{nil, {}, {1}, {1, 2}}, true},
		{[][]int64{room[:4:4], room[4:8:8], room[8:]}, true},
		{[][]int64{room[:5:5], room[4:8:8]}, false},
		// The room of the first is behind it.
		{[][]int64{room[:4], room[4:8]}, false},
		{[][]int64{room[:0], room[4:8:8]}, false},
	} {
		if got := probe.Apart(x.lists); got != x.want {
			t.Errorf("%v: %t, want %t", x.lists, got, x.want)
		}
	}
}

func TestRowsApart(t *testing.T) {
	row, rows := []int{1, 2}, [][]int{{1}, {2}, {3}}
	for _, x := range []struct {
		first, second [][]int
		want          bool
	}{
		{nil, nil, true},
		{[][]int{{1}, {}}, [][]int{{1}, {}}, true},
		{[][]int{row}, [][]int{row}, false},
		{[][]int{row, row}, nil, false},
		{nil, [][]int{row, row[1:]}, false},
		{[][]int{row[:0]}, [][]int{row[1:]}, false},
		{rows[:1:1], rows[1:], true},
		// The room of the first list of rows is the second one.
		{rows[:1], rows[1:], false},
	} {
		if got := probe.RowsApart(x.first, x.second); got != x.want {
			t.Errorf("%v, %v: %t, want %t", x.first, x.second, got, x.want)
		}
	}
}

func TestMemoryOfGraphTells(t *testing.T) {
	g := probe.GraphOf(3, 0, 1, 1, 2)
	var held []api.Edge
	for _, x := range []struct {
		want string
		do   func(g api.Graph) []int
	}{
		{"", func(g api.Graph) []int { return []int{g.N, len(g.Edges), g.Edges[1].B} }},
		{"changes what is handed in", func(g api.Graph) []int { g.Edges[1].B = 0; return nil }},
		{"changes what is handed in", func(g api.Graph) []int { _ = append(g.Edges, api.Edge{}); return nil }},
		{"hangs on earlier answers", func(g api.Graph) []int {
			held = append(held, g.Edges...)
			return make([]int, len(held))
		}},
	} {
		if told := probe.MemoryOfGraph(g, x.do); told != x.want {
			t.Errorf("told %q, want %q", told, x.want)
		}
	}
}

func TestMemoryOfMatrixTells(t *testing.T) {
	for _, x := range []struct {
		want string
		do   func(x api.Matrix) []int
	}{
		{"", func(x api.Matrix) []int { return slices.Concat(x.Rows...) }},
		{"changes what is handed in", func(x api.Matrix) []int { x.Rows[1] = nil; return nil }},
		{"changes what is handed in", func(x api.Matrix) []int { _ = append(x.Rows, nil); return nil }},
		{"changes what is handed in", func(x api.Matrix) []int { x.Rows[1][0] = 7; return nil }},
		{"changes what is handed in", func(x api.Matrix) []int { _ = append(x.Rows[1], 7); return nil }},
		{"answers memory that was handed in", func(x api.Matrix) []int { return x.Rows[1][1:] }},
	} {
		if told := probe.MemoryOfMatrix(probe.MatrixOf(5, 2, 1, 2, 3, 4), x.do); told != x.want {
			t.Errorf("told %q, want %q", told, x.want)
		}
	}
}

func TestMemoryOfRowsTells(t *testing.T) {
	signs := []api.Signs{{Above: 1}, {Below: 1}}
	for _, x := range []struct {
		want string
		do   func(l [][]int) []api.Signs
	}{
		{"", func([][]int) []api.Signs { return slices.Clone(signs) }},
		{"changes what is handed in", func(l [][]int) []api.Signs { l[1] = nil; return nil }},
		{"changes what is handed in", func(l [][]int) []api.Signs { _ = append(l, nil); return nil }},
		{"changes what is handed in", func(l [][]int) []api.Signs { l[1][0] = 7; return nil }},
		{"changes what is handed in", func(l [][]int) []api.Signs { _ = append(l[1], 7); return nil }},
		{"hangs on earlier answers", func([][]int) []api.Signs { return signs }},
	} {
		if told := probe.MemoryOfRows([][]int{{1, 2}, {3, 4}}, api.Signs{Above: -1}, x.do); told != x.want {
			t.Errorf("told %q, want %q", told, x.want)
		}
	}
	if told := probe.MemoryOfRows([][]int{{1, 2}, {3, 4}}, -1, func(l [][]int) []int { return l[1][2:] }); told != "answers memory that was handed in" {
		t.Errorf("told %q", told)
	}
}

func TestSmall(t *testing.T) {
	// Of one, two and three vertices, with up to three edges.
	if got, want := len(probe.SmallGraphs()), 4+(1+4+16+64)+(1+9+81+729); got != want {
		t.Errorf("%d graphs, want %d", got, want)
	}
	if got := probe.MatrixOf(5, 2, 1, 2, 3, 4); len(got.Rows) != 2 || !slices.Equal(got.Rows[1], []int{3, 4}) {
		t.Error(got)
	}
	if got := probe.GraphOf(3, 0, 1, 1, 2); len(got.Edges) != 2 || got.Edges[1] != (api.Edge{A: 1, B: 2}) {
		t.Error(got)
	}
}

func TestPart(t *testing.T) {
	g := probe.GraphOf(5, 0, 1, 2, 1, 3, 2, 3, 3, 4, 4)
	for _, x := range []struct{ s, v, want int }{
		{0, 0, 1}, {0, 4, 16}, {31, 0, 15}, {31, 1, 15}, {31, 3, 15}, {31, 4, 16},
		{1, 0, 3}, {1, 1, 3}, {1, 2, 4}, {2, 1, 6}, {2, 2, 6}, {5, 0, 3}, {5, 3, 12}, {24, 3, 8},
	} {
		if got := probe.Part(g, x.s, x.v); got != x.want {
			t.Errorf("by %d with %d hang together %d, want %d", x.s, x.v, got, x.want)
		}
	}
}

func TestSets(t *testing.T) {
	few := probe.SetLists()
	// Up to three sets of no, one, two and three elements, and the others.
	if got, want := len(few), 4+(1+2+4+8)+(1+4+16+64)+(1+8+64+512)+600; got != want {
		t.Errorf("%d lists of sets, want %d", got, want)
	}
	for _, x := range few {
		if slices.ContainsFunc(x.L, func(s int) bool { return s < 0 || s >= 1<<x.N }) || len(x.L) > 8 {
			t.Error(x)
		}
	}
	for _, x := range probe.WrongSets() {
		if want := x.Want; want != api.ErrArg && (want != api.ErrLarge || len(x.L) <= 8) {
			t.Error(x)
		}
	}
}

func TestWithIndependents(t *testing.T) {
	for _, m := range probe.Matroids() {
		got := probe.WithIndependents(m.N, func(s int) bool { return probe.Independent(m, s) })
		if !probe.Equal(got, m) {
			t.Errorf("got %v, want %v", got, m)
		}
	}
}

func TestOrders(t *testing.T) {
	for n, want := range []int{1, 1, 2, 6, 24, 120} {
		all := probe.Orders(n)
		if len(all) != want || !slices.IsSortedFunc(all, slices.Compare[[]int]) {
			t.Errorf("%d elements: %v", n, all)
		}
	}
	m, p := api.Matroid{N: 3, Bases: []int{3, 5}}, []int{2, 0, 1}
	if got := probe.Renamed(m, p); !probe.Equal(got, api.Matroid{N: 3, Bases: []int{5, 6}}) {
		t.Error(got)
	}
	if got := probe.Inverse(p); !slices.Equal(got, []int{1, 2, 0}) {
		t.Error(got)
	}
}

func TestAll(t *testing.T) {
	for n, want := range []int{1, 2, 5, 16, 68, 406} {
		if got := len(probe.All(n)); got != want {
			t.Errorf("%d elements: %d matroids, want %d", n, got, want)
		}
	}
}

func TestKnown(t *testing.T) {
	if a, b, c := len(probe.K4().Bases), len(probe.Fano().Bases), len(probe.Vamos().Bases); a != 16 || b != 28 || c != 65 {
		t.Error(a, b, c)
	}
	for _, m := range probe.Known() {
		if m.N > 8 || len(m.Bases) == 0 || !slices.IsSorted(m.Bases) || !probe.Exchange(m.Bases) {
			t.Error(m)
		}
	}
}

func TestMemoryOfPlanesTells(t *testing.T) {
	l := []api.Plane{{Normal: []int{1, 2}, At: 3}, {Normal: []int{4, 5}, At: 6}}
	signs := []api.Signs{{Above: 1}, {Below: 1}}
	for _, x := range []struct {
		want string
		do   func(l []api.Plane) []api.Signs
	}{
		{"", func([]api.Plane) []api.Signs { return slices.Clone(signs) }},
		{"changes what is handed in", func(l []api.Plane) []api.Signs { l[1].At = 7; return nil }},
		{"changes what is handed in", func(l []api.Plane) []api.Signs { _ = append(l, api.Plane{}); return nil }},
		{"changes what is handed in", func(l []api.Plane) []api.Signs { l[1].Normal[0] = 7; return nil }},
		{"changes what is handed in", func(l []api.Plane) []api.Signs { _ = append(l[1].Normal, 7); return nil }},
		{"hangs on earlier answers", func([]api.Plane) []api.Signs { return signs }},
	} {
		if told := probe.MemoryOfPlanes(l, api.Signs{Above: -1}, x.do); told != x.want {
			t.Errorf("told %q, want %q", told, x.want)
		}
	}
}

func TestRankOfRows(t *testing.T) {
	for _, x := range []struct {
		rows [][]int
		want int
	}{
		{nil, 0},
		{[][]int{{}, {}}, 0},
		{[][]int{{0, 0}, {0, 0}}, 0},
		{[][]int{{0, 0}, {0, -3}}, 1},
		{[][]int{{1, 2}, {-2, -4}, {500, 1000}}, 1},
		{[][]int{{1, 2}, {2, 1}, {500, 1000}}, 2},
		{[][]int{{0, 1, 1}, {0, 1, -1}, {0, 7, 9}}, 2},
		{[][]int{{0, 1, 1}, {0, 1, -1}, {1, 7, 9}}, 3},
		// The determinant is each of the primes.
		{[][]int{{1<<31 - 1, 0}, {0, 1}}, 2},
		{[][]int{{1<<31 - 19, 0}, {0, 1}}, 2},
		{[][]int{{1000, 999}, {999, 998}}, 2},
		{[][]int{{1000, 998}, {500, 499}}, 1},
	} {
		if got := probe.RankOfRows(x.rows); got != x.want {
			t.Errorf("%v: %d, want %d", x.rows, got, x.want)
		}
	}
}
