package wide_test

import (
	"math"
	"math/big"
	"testing"

	"rota/probe"
	"rota/wide"
)

// pair: a number, and the same one of the library.
type pair struct {
	got  wide.Int
	want *big.Int
}

func of(n int) pair { return pair{wide.Of(n), big.NewInt(int64(n))} }

func (a pair) times(b pair) pair {
	return pair{a.got.Times(b.got), new(big.Int).Mul(a.want, b.want)}
}

func (a pair) plus(b pair) pair {
	return pair{a.got.Plus(b.got), new(big.Int).Add(a.want, b.want)}
}

// hasRoom: is the number from -2^127 to 2^127 - 1?
func (a pair) hasRoom() bool {
	edge := new(big.Int).Lsh(big.NewInt(1), 127)
	return a.want.CmpAbs(edge) < 0 || a.want.Sign() < 0 && a.want.CmpAbs(edge) == 0
}

func (a pair) hold(t *testing.T) {
	t.Helper()
	if a.got.String() != a.want.String() {
		t.Errorf("%s, want %s", a.got, a.want)
	}
}

// pairs of all sizes, up to both ends.
func pairs() []pair {
	var all []pair
	for _, n := range append(probe.Wide(), -1000, 1000, 997, -997, 10, 100, 99999) {
		all = append(all, of(n))
	}
	var jumps probe.Jumps
	for range 60 {
		a, b := of(jumps.Next(1<<30)-1<<29), of(jumps.Next(1<<30))
		all = append(all, a, a.times(b), a.times(b).times(b), a.times(b).times(b).times(a))
	}
	high := of(math.MinInt).times(of(2)) // -2^64
	least := high.times(of(math.MaxInt)).plus(high)
	most := least.plus(of(1)).times(of(-1))
	return append(all, high, high.times(of(-1)), least, least.plus(of(1)), most, most.plus(of(-1)))
}

func TestPairsHaveRoom(t *testing.T) {
	for _, a := range pairs() {
		if !a.hasRoom() {
			t.Errorf("%s", a.want)
		}
	}
}

func TestString(t *testing.T) {
	for _, a := range pairs() {
		a.hold(t)
	}
}

func TestPlusAndTimes(t *testing.T) {
	all := pairs()
	for _, a := range all {
		for _, b := range all {
			if c := a.plus(b); c.hasRoom() {
				c.hold(t)
			}
			if c := a.times(b); c.hasRoom() {
				c.hold(t)
			}
		}
	}
}

func TestPower(t *testing.T) {
	for _, n := range []int{-1000, -10, -1, 0, 1, 2, 7, 1000} {
		for k := range 13 {
			want := new(big.Int).Exp(big.NewInt(int64(n)), big.NewInt(int64(k)), nil)
			if got := wide.Of(n).Power(k); got.String() != want.String() {
				t.Errorf("%d to the power of %d: %s, want %s", n, k, got, want)
			}
		}
	}
}

// TestOneForm: the same number is the same value, however it was made.
func TestOneForm(t *testing.T) {
	if wide.Of(0) != (wide.Int{}) || wide.Of(-1).Times(wide.Of(-1)) != wide.Of(1) || wide.Of(-5).Plus(wide.Of(5)) != wide.Of(0) {
		t.Error("unlike")
	}
}

func TestFraction(t *testing.T) {
	all := pairs()
	for _, n := range all {
		for _, d := range all {
			if d.want.Sign() <= 0 {
				continue
			}
			want := new(big.Rat).SetFrac(n.want, d.want).RatString()
			if got := wide.Fraction(n.got, d.got); got != want {
				t.Errorf("%s over %s: %s, want %s", n.want, d.want, got, want)
			}
		}
	}
}

// TestFractionByHand holds answers that were found by hand.
func TestFractionByHand(t *testing.T) {
	for _, x := range []struct {
		n, d int
		want string
	}{
		{0, 1, "0"}, {0, 7, "0"}, {1, 1, "1"}, {7, 7, "1"}, {6, 3, "2"}, {3, 6, "1/2"}, {6, 4, "3/2"},
		{-6, 4, "-3/2"}, {-4, 4, "-1"}, {10, 100, "1/10"}, {997, 1000, "997/1000"},
	} {
		if got := wide.Fraction(wide.Of(x.n), wide.Of(x.d)); got != x.want {
			t.Errorf("%d over %d: %s, want %s", x.n, x.d, got, x.want)
		}
	}
}
