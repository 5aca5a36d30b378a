package sets_test

import (
	"slices"
	"strings"
	"testing"

	"rota/api"
	"rota/probe"
	"rota/sets"
)

// TestNoPanic is P1: a panic in any of these calls ends the test.
func TestNoPanic(t *testing.T) {
	for _, a := range probe.Wide() {
		sets.Write(a)
		for _, b := range probe.Wide() {
			sets.Check(a, b)
			sets.Choose(a, b)
			sets.Below(a, b)
		}
		for _, l := range probe.Lists() {
			sets.Family(a, l)
			for _, c := range calls() {
				c.do(a, l)
			}
		}
	}
	for b := range 256 {
		one := string([]byte{byte(b)})
		for _, in := range []string{one, one + one, "0" + one, "0 " + one, "7" + one, strings.Repeat(one, 1<<12)} {
			sets.Read(in)
		}
	}
}

func TestArgumentsStayAndAnswersAreNew(t *testing.T) {
	for _, c := range calls() {
		families(func(n int, l []int) {
			do := func(l []int) []int {
				answer, _ := c.do(n, l)
				return answer
			}
			if told := probe.Memory(l, do); told != "" {
				t.Errorf("%s(%d, %v) %s", c.name, n, l, told)
			}
		})
	}
}

func TestRefusedArgumentsStay(t *testing.T) {
	for _, x := range wrongFamilies() {
		handed := probe.Roomy(x.l)
		sets.Family(x.n, handed)
		for _, c := range calls() {
			c.do(x.n, handed)
		}
		if !probe.Untouched(handed, x.l) {
			t.Errorf("%d, %.8v was changed", x.n, x.l)
		}
	}
}

func TestFamilyLeavesItsList(t *testing.T) {
	families(func(n int, l []int) {
		handed := probe.Roomy(l)
		if e := sets.Family(n, handed); e != api.OK || !probe.Untouched(handed, l) {
			t.Errorf("Family(%d, %v) = %d, and left %v", n, l, e, handed)
		}
	})
}

func TestChooseAnswersAreNew(t *testing.T) {
	for n := 0; n <= 8; n++ {
		for k := 0; k <= n; k++ {
			first, _ := sets.Choose(n, k)
			second, _ := sets.Choose(n, k)
			kept := slices.Clone(first)
			probe.Overwrite(first)
			third, _ := sets.Choose(n, k)
			if !slices.Equal(second, kept) || !slices.Equal(third, kept) {
				t.Errorf("Choose(%d, %d) hangs on earlier answers", n, k)
			}
		}
	}
}
