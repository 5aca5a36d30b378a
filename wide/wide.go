// Package wide: whole numbers of 128 bits, for what is told in digits or as a
// fraction and may be more than an int64 has room for. A number is from -2^127
// to 2^127 - 1, and what is reckoned wraps round: who calls knows that there
// is room.
package wide

import (
	"math/bits"
	"slices"
)

// Int is a whole number, in two's complement: so it is added and multiplied
// without asking for signs. That of no bits is 0.
type Int struct{ high, low uint64 }

// Of an int. The high half has the sign alone.
func Of(n int) Int { return Int{high: uint64(int64(n) >> 63), low: uint64(n)} }

// Plus: both together.
func (a Int) Plus(b Int) Int {
	low, carry := bits.Add64(a.low, b.low, 0)
	high, _ := bits.Add64(a.high, b.high, carry)
	return Int{high, low}
}

// Times: both multiplied.
func (a Int) Times(b Int) Int {
	high, low := bits.Mul64(a.low, b.low)
	return Int{high + a.high*b.low + a.low*b.high, low}
}

// Power: a to the power of n, which is 0 or more; to that of 0 it is 1.
func (a Int) Power(n int) Int {
	product := Of(1)
	for range n {
		product = product.Times(a)
	}
	return product
}

// String: in decimal digits, - ahead of those below 0.
func (a Int) String() string {
	if a.isBelowNought() {
		return "-" + a.size().digits()
	}
	return a.digits()
}

// Fraction: n over d, which is above 0, in lowest terms; without d, if that is
// 1 then.
func Fraction(n, d Int) string {
	most := commonDivisor(n.size(), d)
	over, _ := divided(n.size(), most)
	under, _ := divided(d, most)
	text := over.digits()
	if n.isBelowNought() {
		text = "-" + text
	}
	if under == Of(1) {
		return text
	}
	return text + "/" + under.digits()
}

func (a Int) isBelowNought() bool { return a.high>>63 == 1 }

// size of a, without its sign. That of -2^127 has no room as an Int, but what
// follows takes all bits for a number of 0 or more.
func (a Int) size() Int {
	if !a.isBelowNought() {
		return a
	}
	return Int{}.minus(a)
}

func (a Int) minus(b Int) Int {
	low, borrow := bits.Sub64(a.low, b.low, 0)
	high, _ := bits.Sub64(a.high, b.high, borrow)
	return Int{high, low}
}

func (a Int) isLess(b Int) bool {
	_, borrow := bits.Sub64(a.low, b.low, 0)
	_, borrow = bits.Sub64(a.high, b.high, borrow)
	return borrow == 1
}

// doubled, and a bit behind.
func (a Int) doubled(bit uint64) Int {
	return Int{a.high<<1 | a.low>>63, a.low<<1 | bit}
}

// divided: how often b, which is from 1 to 2^127, is in a, and what rests: bit
// by bit, as one divides by hand.
func divided(a, b Int) (quotient, rest Int) {
	for range 128 {
		rest = rest.doubled(a.high >> 63)
		a = a.doubled(0)
		quotient = quotient.doubled(0)
		if !rest.isLess(b) {
			rest = rest.minus(b)
			quotient.low |= 1
		}
	}
	return quotient, rest
}

// commonDivisor: the greatest one.
func commonDivisor(a, b Int) Int {
	for b != (Int{}) {
		_, rest := divided(a, b)
		a, b = b, rest
	}
	return a
}

func (a Int) digits() string {
	var l []byte
	for more := true; more; more = a != (Int{}) {
		var rest Int
		a, rest = divided(a, Of(10))
		l = append(l, '0'+byte(rest.low))
	}
	slices.Reverse(l)
	return string(l)
}
