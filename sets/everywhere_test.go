package sets_test

import (
	"slices"
	"strings"
	"testing"

	"rota/api"
	"rota/sets"
)

// TestNoPanic is P1: a panic in any of these calls ends the test.
func TestNoPanic(t *testing.T) {
	lists := [][]int{nil, {}, {0}, wide(), {0, 1, 2, 3}, {3, 2, 1, 0}}
	for _, a := range wide() {
		lists = append(lists, []int{a}, []int{0, a}, []int{a, 0})
	}
	for _, a := range wide() {
		sets.Write(a)
		for _, b := range wide() {
			sets.Check(a, b)
			sets.Choose(a, b)
			sets.Below(a, b)
		}
		for _, l := range lists {
			sets.Family(a, l)
			for _, c := range calls() {
				c.do(a, l)
			}
		}
	}
	for b := range 256 {
		one := string([]byte{byte(b)})
		for _, in := range []string{one, one + one, "0" + one, "0 " + one, "7" + one, strings.Repeat(one, 1<<12)} {
			sets.Read(in)
		}
	}
}

const mark = -77

// roomy: l, with room behind it that tells whether it was written to.
func roomy(l []int) []int {
	room := make([]int, len(l)+300)
	for i := range room {
		room[i] = mark
	}
	copy(room, l)
	return room[:len(l)]
}

// untouched: is what was made by roomy still as it was?
func untouched(list, was []int) bool {
	room := list[:cap(list)]
	for i, v := range room {
		if i < len(was) && v != was[i] || i >= len(was) && v != mark {
			return false
		}
	}
	return slices.Equal(list, was)
}

// overwrite all of an answer, its spare room included.
func overwrite(l []int) {
	room := l[:cap(l)]
	for i := range room {
		room[i] = mark - 1
	}
}

func TestArgumentsStayAndAnswersAreNew(t *testing.T) {
	for _, c := range calls() {
		families(func(n int, l []int) {
			handed := roomy(l)
			first, _ := c.do(n, handed)
			if !untouched(handed, l) {
				t.Errorf("%s(%d, %v) changed what was handed in", c.name, n, l)
			}
			kept := slices.Clone(first)
			second, _ := c.do(n, handed)
			overwrite(first)
			if !untouched(handed, l) {
				t.Errorf("%s(%d, %v) answers memory that was handed in", c.name, n, l)
			}
			third, _ := c.do(n, handed)
			if !slices.Equal(second, kept) || !slices.Equal(third, kept) {
				t.Errorf("%s(%d, %v) hangs on earlier answers", c.name, n, l)
			}
			overwrite(handed)
			if !slices.Equal(second, kept) {
				t.Errorf("%s(%d, %v) keeps what was handed in", c.name, n, l)
			}
		})
	}
}

func TestRefusedArgumentsStay(t *testing.T) {
	for _, x := range wrongFamilies() {
		handed := roomy(x.l)
		sets.Family(x.n, handed)
		for _, c := range calls() {
			c.do(x.n, handed)
		}
		if !untouched(handed, x.l) {
			t.Errorf("%d, %.8v was changed", x.n, x.l)
		}
	}
}

func TestFamilyLeavesItsList(t *testing.T) {
	families(func(n int, l []int) {
		handed := roomy(l)
		if e := sets.Family(n, handed); e != api.OK || !untouched(handed, l) {
			t.Errorf("Family(%d, %v) = %d, and left %v", n, l, e, handed)
		}
	})
}

func TestChooseAnswersAreNew(t *testing.T) {
	for n := 0; n <= 8; n++ {
		for k := 0; k <= n; k++ {
			first, _ := sets.Choose(n, k)
			second, _ := sets.Choose(n, k)
			kept := slices.Clone(first)
			overwrite(first)
			third, _ := sets.Choose(n, k)
			if !slices.Equal(second, kept) || !slices.Equal(third, kept) {
				t.Errorf("Choose(%d, %d) hangs on earlier answers", n, k)
			}
		}
	}
}
