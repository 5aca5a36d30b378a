package arrange_test

import (
	"slices"

	"rota/api"
	"rota/probe"
)

// planes: d numbers and At of each.
func planes(d int, numbers ...int) []api.Plane {
	var l []api.Plane
	for row := range slices.Chunk(numbers, d+1) {
		l = append(l, api.Plane{Normal: slices.Clone(row[:d]), At: row[d]})
	}
	return l
}

// given: a list of planes in a space.
type given struct {
	d int
	l []api.Plane
}

// small planes: all whose numbers are from -far to far.
func small(d, far int) []api.Plane {
	rows := [][]int{nil}
	for range d + 1 {
		var longer [][]int
		for _, row := range rows {
			for v := -far; v <= far; v++ {
				longer = append(longer, append(row[:len(row):len(row)], v))
			}
		}
		rows = longer
	}
	var l []api.Plane
	for _, row := range rows {
		if !isNought(row[:d]) {
			l = append(l, planes(d, row...)...)
		}
	}
	return l
}

func isNought(l []int) bool {
	return !slices.ContainsFunc(l, func(v int) bool { return v != 0 })
}

// pairs: none, each, and any two of all small planes.
func pairs(d, far int) []given {
	all := []given{{d, nil}, {d, []api.Plane{}}}
	for _, a := range small(d, far) {
		all = append(all, given{d, []api.Plane{a}})
		for _, b := range small(d, far) {
			all = append(all, given{d, []api.Plane{a, b}})
		}
	}
	return all
}

// jumpPlane: one with numbers from -far to far.
func jumpPlane(jumps *probe.Jumps, d, far int) api.Plane {
	row := make([]int, d+1)
	for isNought(row[:d]) {
		for i := range row {
			row[i] = jumps.Next(2*far+1) - far
		}
	}
	return planes(d, row...)[0]
}

// jumpPlanes: so many lists of two to six planes. Where the numbers are few,
// many planes are parallel, the same, or have a point together.
func jumpPlanes(d, far, times int) []given {
	var all []given
	var jumps probe.Jumps
	for i := range times {
		var l []api.Plane
		for range 2 + i%5 {
			l = append(l, jumpPlane(&jumps, d, far))
		}
		all = append(all, given{d, l})
	}
	return all
}

// nearly: lists of planes through one point, of which the last one may lie
// beside it by as little as whole numbers allow.
func nearly(d, times int) []given {
	var all []given
	var jumps probe.Jumps
	for i := range times {
		point := []int{jumps.Next(3), -jumps.Next(2), jumps.Next(2)}
		var l []api.Plane
		for range d + 1 + i%(6-d) {
			p := jumpPlane(&jumps, d, 249)
			p.At = 0
			for j, v := range p.Normal {
				p.At += v * point[j]
			}
			l = append(l, p)
		}
		l[len(l)-1].At += i % 3
		all = append(all, given{d, l})
	}
	return all
}

// hadamard: planes whose determinants are the greatest that there are.
func hadamard() []given {
	k := api.MaxNumber
	return []given{
		{1, planes(1, k, k, k, -k, -k, k, 1, k, k, k-1)},
		{2, planes(2, k, k, k, k, -k, k, -k, k, k, k, k-1, k, k-1, k-2, k-1, -k, -k, -k)},
		{3, planes(3, k, k, k, k, k, -k, k, -k, k, k, -k, -k, k, -k, -k, k, -k, k, k, k, k-1, k, k, k)},
		{3, planes(3, k, k-1, k-2, k, k-1, k-2, k-3, k-1, k-2, k-3, k-4, k-2, k-3, k-4, k-5, k-4, k, -k, k, 0, 1, 0, 0, k)},
	}
}

// known lists of planes: generic ones, parallel ones, the same ones again,
// those of a cube, of the orders of numbers.
func known() []given {
	return []given{
		{1, planes(1, 1, 0, 1, 1)},
		{1, planes(1, 2, 4, -3, -6, 1, 2, 1, 3)},
		{2, planes(2, 1, 0, 0, 0, 1, 0, 1, 1, 1)},
		{2, planes(2, 1, 2, 3, 2, 4, 6, -1, -2, -3, -1, -2, 3)},
		{2, planes(2, 1, 0, 0, 1, 0, 1, 1, 0, 2, 0, 1, 0, 0, 1, 1, 0, 1, 2)},
		{3, cube()}, {3, shi()}, {3, linial()}, {3, orders()}, {3, generic()},
		{3, planes(3, 1, 2, 3, 4, 2, 4, 6, 8, -1, -2, -3, -4, 1, 2, 3, 5, 3, 2, 1, 0, -3, -2, -1, 0)},
		// Three planes that have no point together, any two of which have one.
		{3, planes(3, 1, 0, 0, 0, 0, 1, 0, 0, 1, 1, 0, 1)},
		// Six planes through one line.
		{3, planes(3, 1, 0, 1, 2, 0, 1, 1, 2, 1, 1, 2, 4, 1, -1, 0, 0, 2, 1, 3, 6, 1, 2, 3, 6)},
	}
}

func cube() []api.Plane {
	return planes(3, 1, 0, 0, 0, 1, 0, 0, 1, 0, 1, 0, 0, 0, 1, 0, 1, 0, 0, 1, 0, 0, 0, 1, 1)
}

// shi: any two coordinates differ by 0, by 1.
func shi() []api.Plane {
	return planes(3, 1, -1, 0, 0, 1, -1, 0, 1, 0, 1, -1, 0, 0, 1, -1, 1, 1, 0, -1, 0, 1, 0, -1, 1)
}

// linial: any two coordinates differ by 1.
func linial() []api.Plane { return planes(3, 1, -1, 0, 1, 0, 1, -1, 1, 1, 0, -1, 1) }

// orders of four numbers: two are the same, in coordinates of what they differ.
func orders() []api.Plane {
	return planes(3, 1, -1, 0, 0, 1, 1, 0, 0, 1, 0, -1, 0, 1, 0, 1, 0, 0, 1, -1, 0, 0, 1, 1, 0)
}

// generic: any three have one point together, no four have one.
func generic() []api.Plane {
	return planes(3, 1, 0, 0, 0, 1, 1, 1, 1, 1, 2, 4, 8, 1, 3, 9, 27, 1, 4, 16, 64, 1, 5, 25, 126)
}
