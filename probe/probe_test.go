package probe_test

import (
	"slices"
	"testing"

	"rota/probe"
)

func TestMemoryTells(t *testing.T) {
	l := []int{1, 2, 3}
	var once, held []int
	for _, x := range []struct {
		want string
		do   func(l []int) []int
	}{
		{"", slices.Clone[[]int]},
		{"", func([]int) []int { return nil }},
		{"changes what is handed in", func(l []int) []int { l[1] = 7; return nil }},
		{"changes what is handed in", func(l []int) []int { _ = append(l, 7); return nil }},
		{"answers memory that was handed in", func(l []int) []int { return l[1:] }},
		{"answers memory that was handed in", func(l []int) []int { return l[len(l):] }},
		{"hangs on earlier answers", func(l []int) []int {
			if once == nil {
				once = slices.Clone(l)
			}
			return once
		}},
		{"hangs on earlier answers", func([]int) []int { held = append(held, 1); return slices.Clone(held) }},
	} {
		if told := probe.Memory(l, x.do); told != x.want {
			t.Errorf("told %q, want %q", told, x.want)
		}
	}
}

func TestAll(t *testing.T) {
	for n, want := range []int{1, 2, 5, 16, 68, 406} {
		if got := len(probe.All(n)); got != want {
			t.Errorf("%d elements: %d matroids, want %d", n, got, want)
		}
	}
}

func TestKnown(t *testing.T) {
	if a, b, c := len(probe.K4().Bases), len(probe.Fano().Bases), len(probe.Vamos().Bases); a != 16 || b != 28 || c != 65 {
		t.Error(a, b, c)
	}
	for _, m := range probe.Known() {
		if m.N > 8 || len(m.Bases) == 0 || !slices.IsSorted(m.Bases) || !probe.Exchange(m.Bases) {
			t.Error(m)
		}
	}
}
