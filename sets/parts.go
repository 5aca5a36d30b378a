package sets

import (
	"iter"
	"math/bits"
	"slices"

	"rota/api"
)

// CheckFew: ErrArg, if n elements there can not be, or an entry of l is no set
// of them; else ErrLarge, if l has more than there can be elements.
func CheckFew(n int, l []int) api.Errno {
	// The empty set is one of any n elements that there can be.
	if e := Check(n, 0); e != api.OK {
		return e
	}
	for _, s := range l {
		if e := Check(n, s); e != api.OK {
			return e
		}
	}
	if len(l) > api.MaxGround {
		return api.ErrLarge
	}
	return api.OK
}

// CheckNumbers: ErrShape, if l has not a number for each of n things; else
// ErrArg, if one of them is not from least to most.
func CheckNumbers(n int, l []int, least, most int) api.Errno {
	if len(l) != n {
		return api.ErrShape
	}
	for _, x := range l {
		if x < least || x > most {
			return api.ErrArg
		}
	}
	return api.OK
}

// What follows is for the layers below, too: it takes sets as they are, without
// asking whether they are any.

// Whole: the set of all of n elements.
func Whole(n int) int { return 1<<n - 1 }

// Size: how many elements s has.
func Size(s int) int { return bits.OnesCount(uint(s)) }

// Within: does b have all elements of a?
func Within(a, b int) bool { return a&^b == 0 }

// Lowest: the least element of s, as a set of its own; of no elements none.
func Lowest(s int) int { return s & -s }

// Singles: the elements of s, rising, each as a set of its own.
func Singles(s int) iter.Seq[int] {
	return func(yield func(int) bool) {
		for rest := s; rest != 0; rest = withoutLeast(rest) {
			if !yield(Lowest(rest)) {
				return
			}
		}
	}
}

// Sieve: the sets of n elements that are wanted, rising.
func Sieve(n int, wanted func(s int) bool) []int {
	var l []int
	for s := range 1 << n {
		if wanted(s) {
			l = append(l, s)
		}
	}
	return l
}

// Complements: what each set of a family leaves of n elements, rising.
func Complements(n int, l []int) []int {
	others := make([]int, 0, len(l))
	for _, s := range slices.Backward(l) {
		others = append(others, Whole(n)&^s)
	}
	return others
}

// OldNames: the set that is s once the kept elements are numbered anew.
func OldNames(s, kept int) int {
	old := 0
	for x := range Singles(kept) {
		if s&1 == 1 {
			old |= x
		}
		s >>= 1
	}
	return old
}
