// Package probe: what the tests of several packages are made of: numbers that
// are far off, lists that tell whether they were written to, and matroids that
// are made without asking the packages that are tested. The program itself
// does not use it.
package probe

import (
	"math"
	"slices"
)

// Wide holds numbers at and beyond every edge that the program knows.
func Wide() []int {
	return []int{
		math.MinInt, math.MinInt + 1, math.MinInt32, -256, -64, -8, -1,
		0, 1, 2, 3, 6, 7, 8, 9, 10, 31, 32, 63, 64, 65, 127, 128, 254, 255, 256, 257,
		511, 512, math.MaxInt32, math.MaxUint32, math.MaxInt - 1, math.MaxInt,
	}
}

// Lists of Wide numbers: few, many, rising, falling, the same again.
func Lists() [][]int {
	lists := [][]int{nil, {}, {0}, Wide(), {0, 1, 2, 3}, {3, 2, 1, 0}, make([]int, 256), make([]int, 1<<16)}
	for _, a := range Wide() {
		lists = append(lists, []int{a}, []int{0, a}, []int{a, 0}, []int{a, a})
	}
	return lists
}

// mark stands in room that nobody may write to.
const mark = -77

// Roomy: l, with room behind it that tells whether it was written to.
func Roomy(l []int) []int {
	room := make([]int, len(l)+300)
	for i := range room {
		room[i] = mark
	}
	copy(room, l)
	return room[:len(l)]
}

// Untouched: is what was made by Roomy still as it was?
func Untouched(list, was []int) bool {
	if !slices.Equal(list, was) {
		return false
	}
	for _, v := range list[len(list):cap(list)] {
		if v != mark {
			return false
		}
	}
	return true
}

// Overwrite all of an answer, its spare room included.
func Overwrite(l []int) {
	room := l[:cap(l)]
	for i := range room {
		room[i] = mark - 1
	}
}

// Memory holds a call that takes a list and answers one to P2, and tells what
// it breaks ("", if nothing).
func Memory(l []int, do func([]int) []int) string {
	handed := Roomy(l)
	first := do(handed)
	if !Untouched(handed, l) {
		return "changes what is handed in"
	}
	kept := slices.Clone(first)
	second := do(handed)
	Overwrite(first)
	if !Untouched(handed, l) {
		return "answers memory that was handed in"
	}
	third := do(handed)
	if !slices.Equal(second, kept) || !slices.Equal(third, kept) {
		return "hangs on earlier answers"
	}
	Overwrite(handed)
	if !slices.Equal(second, kept) {
		return "keeps what was handed in"
	}
	return ""
}
