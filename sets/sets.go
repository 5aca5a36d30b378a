// Package sets: sets: see doc/01-sets.md.
package sets

import (
	"math/bits"
	"strconv"
	"strings"

	"rota/api"
)

// whole is the greatest set there is: all elements that there can be.
const whole = 1<<api.MaxGround - 1

// Check: P3.
func Check(n, s int) api.Errno {
	if !isGround(n) || s < 0 || s >= 1<<n {
		return api.ErrArg
	}
	return api.OK
}

// Family: P3.
func Family(n int, l []int) api.Errno {
	if !isGround(n) {
		return api.ErrArg
	}
	// Below every set, so that the first one is held to the same rule as
	// the others; and a list that rises ends within 2^n steps.
	last := -1
	for _, s := range l {
		if s <= last || s >= 1<<n {
			return api.ErrArg
		}
		last = s
	}
	return api.OK
}

// Write: P3.
func Write(s int) (string, api.Errno) {
	if !isSet(s) {
		return "", api.ErrArg
	}
	var text strings.Builder
	for rest := s; rest != 0; rest = withoutLeast(rest) {
		if text.Len() > 0 {
			text.WriteByte(' ')
		}
		text.WriteString(strconv.Itoa(leastElement(rest)))
	}
	return text.String(), api.OK
}

// Read: P3.
func Read(t string) (int, api.Fault) {
	s := 0
	next := 0 // the least element that may still come
	for i := range len(t) {
		// Each element is one digit, so blanks stand at the odd places.
		if i%2 == 1 {
			if t[i] != ' ' || next == api.MaxGround {
				return 0, syntaxAt(i)
			}
			continue
		}
		e := int(t[i]) - '0'
		if e < next || e >= api.MaxGround {
			return 0, syntaxAt(i)
		}
		s |= 1 << e
		next = e + 1
	}
	if len(t) > 0 && len(t)%2 == 0 {
		return 0, syntaxAt(len(t))
	}
	return s, api.Fault{}
}

// Choose: P4.
func Choose(n, k int) ([]int, api.Errno) {
	if !isGround(n) || k < 0 || k > n {
		return nil, api.ErrArg
	}
	return Sieve(n, func(s int) bool { return Size(s) == k }), api.OK
}

// Below: P4.
func Below(a, b int) (bool, api.Errno) {
	if !isSet(a) || !isSet(b) {
		return false, api.ErrArg
	}
	if Size(a) != Size(b) {
		return false, api.ErrShape
	}
	for a != 0 {
		if leastElement(a) > leastElement(b) {
			return false, api.OK
		}
		a, b = withoutLeast(a), withoutLeast(b)
	}
	return true, api.OK
}

// Least: P5.
func Least(n int, l []int) ([]int, api.Errno) {
	if e := Family(n, l); e != api.OK {
		return nil, e
	}
	var least []int
	for _, s := range l {
		if !hasOtherWithin(l, s) {
			least = append(least, s)
		}
	}
	return least, api.OK
}

// Most: P5.
func Most(n int, l []int) ([]int, api.Errno) {
	if e := Family(n, l); e != api.OK {
		return nil, e
	}
	var most []int
	for _, s := range l {
		if !hasOtherAround(l, s) {
			most = append(most, s)
		}
	}
	return most, api.OK
}

// Shadow: P5.
func Shadow(n int, l []int) ([]int, api.Errno) {
	if e := Family(n, l); e != api.OK {
		return nil, e
	}
	// Marks, since one set may come of several, and not in rising order.
	var comes [whole + 1]bool
	for _, s := range l {
		for x := range Singles(s) {
			comes[s&^x] = true
		}
	}
	return Sieve(n, func(s int) bool { return comes[s] }), api.OK
}

// Blocker: P5.
func Blocker(n int, l []int) ([]int, api.Errno) {
	if e := Family(n, l); e != api.OK {
		return nil, e
	}
	return Sieve(n, func(s int) bool { return meetsAll(l, s) && !canSpareOne(l, s) }), api.OK
}

// isGround: can there be n elements?
func isGround(n int) bool { return n >= 0 && n <= api.MaxGround }

// isSet: is s a set of as many elements as there can be?
func isSet(s int) bool { return s >= 0 && s <= whole }

// leastElement of s, which is not empty.
func leastElement(s int) int { return bits.TrailingZeros(uint(s)) }

// withoutLeast: s, which is not empty, without its least element.
func withoutLeast(s int) int { return s & (s - 1) }

// syntaxAt: a text that can not go on at a byte.
func syntaxAt(at int) api.Fault { return api.Fault{Code: api.ErrSyntax, At: at} }

// hasOtherWithin: does s have another set of l within it?
func hasOtherWithin(l []int, s int) bool {
	for _, o := range l {
		if o != s && Within(o, s) {
			return true
		}
	}
	return false
}

// hasOtherAround: is s within another set of l?
func hasOtherAround(l []int, s int) bool {
	for _, o := range l {
		if o != s && Within(s, o) {
			return true
		}
	}
	return false
}

// meetsAll: does s have an element of each set of l?
func meetsAll(l []int, s int) bool {
	for _, o := range l {
		if s&o == 0 {
			return false
		}
	}
	return true
}

// canSpareOne: does s still meet all of l without one of its elements? Single
// elements are enough to ask for: what holds a set that meets all meets all.
func canSpareOne(l []int, s int) bool {
	for x := range Singles(s) {
		if meetsAll(l, s&^x) {
			return true
		}
	}
	return false
}
