// Package probe: what the tests of several packages are made of: numbers that
// are far off, lists that tell whether they were written to, and matroids that
// are made without asking the packages that are tested. The program itself
// does not use it.
package probe

import (
	"math"
	"slices"

	"rota/api"
)

// Wide holds numbers at and beyond every edge that the program knows.
func Wide() []int {
	return []int{
		math.MinInt, math.MinInt + 1, math.MinInt32, -256, -64, -8, -1,
		0, 1, 2, 3, 6, 7, 8, 9, 10, 31, 32, 63, 64, 65, 127, 128, 254, 255, 256, 257,
		511, 512, math.MaxInt32, math.MaxUint32, math.MaxInt - 1, math.MaxInt,
	}
}

// Lists of Wide numbers: few, many, rising, falling, the same again.
func Lists() [][]int {
	lists := [][]int{nil, {}, {0}, Wide(), {0, 1, 2, 3}, {3, 2, 1, 0}, make([]int, 256), make([]int, 1<<16)}
	for _, a := range Wide() {
		lists = append(lists, []int{a}, []int{0, a}, []int{a, 0}, []int{a, a})
	}
	return lists
}

// mark stands in room that nobody may write to.
const mark = -77

// Roomy: l, with room behind it that tells whether it was written to.
func Roomy(l []int) []int { return plain(mark).roomy(l) }

// Untouched: is what was made by Roomy still as it was?
func Untouched(list, was []int) bool { return plain(mark).untouched(list, was) }

// number of a list that is answered.
type number interface{ ~int | ~int64 }

// Overwrite all of an answer, its spare room included.
func Overwrite[A number](l []A) { overwrite(l, mark-1) }

// Apart: has each of these lists memory of its own? They are overwritten, spare
// room included.
func Apart[A number](lists [][]A) bool {
	for i, l := range lists {
		overwrite(l, A(i))
	}
	for i, l := range lists {
		if slices.ContainsFunc(l[:cap(l)], func(v A) bool { return v != A(i) }) {
			return false
		}
	}
	return true
}

// RowsApart: have two answers of rows nothing together, neither rows nor the
// lists of these, and no row memory of another one? They are overwritten.
func RowsApart[A number](first, second [][]A) bool {
	if !Apart(slices.Concat(first, second)) {
		return false
	}
	overwrite(first, []A{mark})
	return !slices.ContainsFunc(second, func(row []A) bool { return slices.Equal(row, []A{mark}) })
}

// Memory holds a call that takes a list and answers one to P2, and tells what
// it breaks ("", if nothing).
func Memory[A number](l []int, do func([]int) []A) string { return memory(plain(mark), l, mark-1, do) }

// MemoryOfGraph is Memory for a call that takes a graph.
func MemoryOfGraph[A number](g api.Graph, do func(api.Graph) []A) string {
	edges := plain(api.Edge{A: mark, B: mark})
	return memory(edges, g.Edges, mark-1, func(l []api.Edge) []A { return do(api.Graph{N: g.N, Edges: l}) })
}

// MemoryOfMatrix is Memory for a call that takes a matrix: its list of rows,
// and each row.
func MemoryOfMatrix(x api.Matrix, do func(api.Matrix) []int) string {
	return MemoryOfRows(x.Rows, mark-1, func(l [][]int) []int { return do(api.Matrix{P: x.P, Cols: x.Cols, Rows: l}) })
}

// MemoryOfRows is Memory for a call that takes rows: their list, and each row.
// The answer may be a list of anything; other is what it can not hold.
func MemoryOfRows[A comparable](l [][]int, other A, do func([][]int) []A) string {
	return memory(things[[]int]{mark: []int{mark}, copied: Roomy, isAsWas: Untouched}, l, other, do)
}

// MemoryOfPlanes is Memory for a call that takes planes: their list, and each
// Normal. The answer may be a list of anything; other is what it can not hold.
func MemoryOfPlanes[A comparable](l []api.Plane, other A, do func([]api.Plane) []A) string {
	planes := things[api.Plane]{
		mark:    api.Plane{Normal: []int{mark}, At: mark},
		copied:  func(p api.Plane) api.Plane { return api.Plane{Normal: Roomy(p.Normal), At: p.At} },
		isAsWas: func(p, was api.Plane) bool { return p.At == was.At && Untouched(p.Normal, was.Normal) },
	}
	return memory(planes, l, other, do)
}

// things that a list may hold: one that no list holds, how one is copied, and
// whether a copy is still as it was.
type things[T any] struct {
	mark    T
	copied  func(T) T
	isAsWas func(copied, was T) bool
}

// plain things are copied with the list that holds them.
func plain[T comparable](mark T) things[T] {
	return things[T]{
		mark:    mark,
		copied:  func(v T) T { return v },
		isAsWas: func(a, b T) bool { return a == b },
	}
}

func (k things[T]) roomy(l []T) []T {
	room := make([]T, len(l)+300)
	overwrite(room, k.mark)
	for i, v := range l {
		room[i] = k.copied(v)
	}
	return room[:len(l)]
}

func (k things[T]) untouched(list, was []T) bool {
	for _, v := range list[len(list):cap(list)] {
		if !k.isAsWas(v, k.mark) {
			return false
		}
	}
	return slices.EqualFunc(list, was, k.isAsWas)
}

func overwrite[T any](l []T, by T) {
	room := l[:cap(l)]
	for i := range room {
		room[i] = by
	}
}

// memory is Memory for lists of anything; other is what overwrites an answer.
func memory[T any, A comparable](k things[T], l []T, other A, do func([]T) []A) string {
	handed := k.roomy(l)
	first := do(handed)
	if !k.untouched(handed, l) {
		return "changes what is handed in"
	}
	kept := slices.Clone(first)
	second := do(handed)
	overwrite(first, other)
	if !k.untouched(handed, l) {
		return "answers memory that was handed in"
	}
	third := do(handed)
	if !slices.Equal(second, kept) || !slices.Equal(third, kept) {
		return "hangs on earlier answers"
	}
	overwrite(handed, k.mark)
	if !slices.Equal(second, kept) {
		return "keeps what was handed in"
	}
	return ""
}
