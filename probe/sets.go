package probe

import "rota/api"

// SetList: sets of N elements, in any order.
type SetList struct {
	N int
	L []int
}

// SetLists: all of up to three sets of up to three elements, and some of up to
// eight of up to eight.
func SetLists() []SetList {
	var all []SetList
	for n := range 4 {
		for k := range 4 {
			for _, l := range lists(1<<n, k) {
				all = append(all, SetList{n, l})
			}
		}
	}
	var jumps Jumps
	for i := range 600 {
		all = append(all, jumpSets(&jumps, 4+i%5, i%3))
	}
	return all
}

// jumpSets of n elements: with few of them each, with many, or with few and one
// that no other set is given, as long as there are such.
func jumpSets(jumps *Jumps, n, kind int) SetList {
	x := SetList{N: n, L: make([]int, jumps.Next(9))}
	turn := jumps.Next(n)
	for i := range x.L {
		x.L[i] = jumps.Next(1<<n) & jumps.Next(1<<n)
		switch kind {
		case 1:
			x.L[i] |= jumps.Next(1 << n)
		case 2:
			// 11 goes through all elements, be they 4, 5, 6, 7 or 8.
			x.L[i] = x.L[i]&jumps.Next(1<<n) | 1<<((11*i+turn)%n)
		}
	}
	return x
}

// RefusedSets are no list of up to eight sets, and how they are refused.
type RefusedSets struct {
	SetList
	Want api.Errno
}

// WrongSets holds such, beside what P12 and P37 say of them.
func WrongSets() []RefusedSets {
	given := []SetList{
		{2, []int{4}}, {2, []int{1, 4}}, {2, []int{4, 1}}, {2, []int{-1}}, {2, []int{1, 2, 3, -1}},
		{0, []int{1}}, {8, []int{256}}, {8, []int{255, 255, 255, 255, 255, 255, 255, 256}},
		{2, make([]int, 9)}, {0, make([]int, 9)}, {8, make([]int, 9)}, {9, make([]int, 9)}, {-1, make([]int, 9)},
		// Too many, and one that is no set: what is told first holds.
		{2, []int{1, 1, 1, 1, 1, 1, 1, 1, 4}}, {2, []int{4, 1, 1, 1, 1, 1, 1, 1, 1}},
		{8, append(make([]int, 1<<16), 256)},
	}
	all := Lists()
	for _, n := range Wide() {
		for _, l := range all {
			given = append(given, SetList{n, l})
		}
	}
	var wrong []RefusedSets
	for _, x := range given {
		if want := saidOfSets(x.N, x.L); want != api.OK {
			wrong = append(wrong, RefusedSets{x, want})
		}
	}
	return wrong
}

// saidOfSets, word by word.
func saidOfSets(n int, l []int) api.Errno {
	if n < 0 || n > 8 {
		return api.ErrArg
	}
	for _, s := range l {
		if s < 0 || s >= 1<<n {
			return api.ErrArg
		}
	}
	if len(l) > 8 {
		return api.ErrLarge
	}
	return api.OK
}
