package sets_test

import (
	"math"
	"slices"
	"strings"
	"testing"

	"rota/api"
	"rota/probe"
	"rota/sets"
)

// elements of a set, rising, asked one by one.
func elements(s int) []int {
	var l []int
	for e := range 63 {
		if s>>e&1 == 1 {
			l = append(l, e)
		}
	}
	return l
}

// text that P3 asks for, put together from the elements' names.
func text(s int) string {
	var names []string
	for _, e := range elements(s) {
		names = append(names, string(rune('0'+e)))
	}
	return strings.Join(names, " ")
}

func TestCheck(t *testing.T) {
	for _, n := range probe.Wide() {
		for _, s := range probe.Wide() {
			want := api.ErrArg
			if n >= 0 && n <= 8 && s >= 0 && s < []int{1, 2, 4, 8, 16, 32, 64, 128, 256}[n] {
				want = api.OK
			}
			if got := sets.Check(n, s); got != want {
				t.Errorf("Check(%d, %d) = %d, want %d", n, s, got, want)
			}
		}
	}
}

func TestFamily(t *testing.T) {
	all := make([]int, 256)
	for s := range all {
		all[s] = s
	}
	for _, x := range []struct {
		n    int
		l    []int
		want api.Errno
	}{
		{0, nil, api.OK},
		{0, []int{}, api.OK},
		{0, []int{0}, api.OK},
		{0, []int{1}, api.ErrArg},
		{0, []int{0, 0}, api.ErrArg},
		{1, []int{0, 1}, api.OK},
		{1, []int{1, 2}, api.ErrArg},
		{3, []int{1, 2, 7}, api.OK},
		{3, []int{1, 2, 8}, api.ErrArg},
		{3, []int{2, 1}, api.ErrArg},
		{3, []int{1, 2, 2, 3}, api.ErrArg},
		{3, []int{1, 5, 4}, api.ErrArg},
		{3, []int{-1, 1}, api.ErrArg},
		{3, []int{math.MinInt, 0}, api.ErrArg},
		{3, []int{0, math.MaxInt}, api.ErrArg},
		{8, nil, api.OK},
		{8, all, api.OK},
		{7, all, api.ErrArg},
		{8, []int{255}, api.OK},
		{8, []int{256}, api.ErrArg},
		{9, nil, api.ErrArg},
		{9, []int{1}, api.ErrArg},
		{-1, nil, api.ErrArg},
		{math.MinInt, nil, api.ErrArg},
		{math.MaxInt, []int{0}, api.ErrArg},
	} {
		if got := sets.Family(x.n, x.l); got != x.want {
			t.Errorf("Family(%d, %v) = %d, want %d", x.n, x.l, got, x.want)
		}
	}
}

func TestWrite(t *testing.T) {
	for _, x := range []struct {
		s    int
		want string
	}{{0, ""}, {1, "0"}, {5, "0 2"}, {128, "7"}, {255, "0 1 2 3 4 5 6 7"}} {
		if got, e := sets.Write(x.s); e != api.OK || got != x.want {
			t.Errorf("Write(%d) = %q, %d", x.s, got, e)
		}
	}
	for s := range 256 {
		if got, e := sets.Write(s); e != api.OK || got != text(s) {
			t.Errorf("Write(%d) = %q, %d", s, got, e)
		}
	}
	for _, s := range probe.Wide() {
		if s >= 0 && s <= 255 {
			continue
		}
		if got, e := sets.Write(s); e != api.ErrArg || got != "" {
			t.Errorf("Write(%d) = %q, %d", s, got, e)
		}
	}
}

// readings: every text that can be read, and how far each may still go on:
// all the beginnings of such texts.
func readings() (whole, begun map[string]int) {
	whole, begun = map[string]int{}, map[string]int{}
	for s := range 256 {
		written := text(s)
		whole[written] = s
		for i := range len(written) + 1 {
			begun[written[:i]] = i
		}
	}
	return whole, begun
}

// holdRead holds Read to the words "the first byte with which it can not go
// on, whatever may come": the end of the longest beginning of a right text.
func holdRead(t *testing.T, whole, begun map[string]int, in string) {
	t.Helper()
	got, f := sets.Read(in)
	if want, ok := whole[in]; ok {
		if got != want || f != (api.Fault{}) {
			t.Errorf("Read(%q) = %d, %v, want %d", in, got, f, want)
		}
		return
	}
	at := 0
	for at < len(in) {
		if _, ok := begun[in[:at+1]]; !ok {
			break
		}
		at++
	}
	if got != 0 || f != (api.Fault{Code: api.ErrSyntax, At: at}) {
		t.Errorf("Read(%q) = %d, %v, want a fault at %d", in, got, f, at)
	}
}

func TestRead(t *testing.T) {
	whole, begun := readings()
	for in := range whole {
		holdRead(t, whole, begun, in)
		for b := range 256 {
			holdRead(t, whole, begun, in+string([]byte{byte(b)}))
			holdRead(t, whole, begun, string([]byte{byte(b)})+in)
		}
	}
	for in := range begun {
		holdRead(t, whole, begun, in)
	}
	const letters = "0 1678-/:\x00\xb0"
	var walk func(in string, more int)
	walk = func(in string, more int) {
		holdRead(t, whole, begun, in)
		for i := 0; more > 0 && i < len(letters); i++ {
			walk(in+letters[i:i+1], more-1)
		}
	}
	walk("", 5)
}

func TestReadEdges(t *testing.T) {
	for _, x := range []struct {
		in string
		at int
	}{
		{" ", 0}, {" 1", 0}, {"8", 0}, {"9", 0}, {"-1", 0}, {"+1", 0}, {"\n", 0}, {"\x00", 0}, {"é", 0},
		{"0 ", 2}, {"0  1", 2}, {"0\t1", 1}, {"0,1", 1}, {"01", 1}, {"10", 1}, {"00", 1},
		{"1 1", 2}, {"1 0", 2}, {"2 3 3", 4}, {"0 8", 2}, {"6 ", 2}, {"6 x", 2},
		{"7 ", 1}, {"7 8", 1}, {"77", 1}, {"6 7 ", 3}, {"0 1 2 3 4 5 6 7 ", 15}, {"0 1 2 3 4 5 6 ", 14},
		{"0 1\n", 3}, {strings.Repeat("0 ", 1<<16), 2}, {strings.Repeat("7", 1<<16), 1},
	} {
		if got, f := sets.Read(x.in); got != 0 || f != (api.Fault{Code: api.ErrSyntax, At: x.at}) {
			t.Errorf("Read(%.20q) = %d, %v, want a fault at %d", x.in, got, f, x.at)
		}
	}
	if got, f := sets.Read(""); got != 0 || f != (api.Fault{}) {
		t.Errorf("Read of the empty text = %d, %v", got, f)
	}
}

func TestChoose(t *testing.T) {
	for n := 0; n <= 8; n++ {
		for k := 0; k <= n; k++ {
			var want []int
			for s := 0; s < 1<<n; s++ {
				if len(elements(s)) == k {
					want = append(want, s)
				}
			}
			if got, e := sets.Choose(n, k); e != api.OK || !slices.Equal(got, want) {
				t.Errorf("Choose(%d, %d) = %v, %d", n, k, got, e)
			}
		}
	}
	for _, n := range probe.Wide() {
		for _, k := range probe.Wide() {
			if n >= 0 && n <= 8 && k >= 0 && k <= n {
				continue
			}
			if got, e := sets.Choose(n, k); e != api.ErrArg || len(got) != 0 {
				t.Errorf("Choose(%d, %d) = %v, %d", n, k, got, e)
			}
		}
	}
}

func TestChooseEdges(t *testing.T) {
	for _, x := range []struct {
		n, k int
		want []int
	}{
		{0, 0, []int{0}},
		{3, 0, []int{0}},
		{3, 2, []int{3, 5, 6}},
		{4, 2, []int{3, 5, 6, 9, 10, 12}},
		{8, 8, []int{255}},
		{8, 1, []int{1, 2, 4, 8, 16, 32, 64, 128}},
	} {
		if got, e := sets.Choose(x.n, x.k); e != api.OK || !slices.Equal(got, x.want) {
			t.Errorf("Choose(%d, %d) = %v, %d", x.n, x.k, got, e)
		}
	}
}

// galeBelow: P4's words on the lists of elements.
func galeBelow(a, b int) bool {
	la, lb := elements(a), elements(b)
	for i := range la {
		if la[i] > lb[i] {
			return false
		}
	}
	return true
}

func TestBelow(t *testing.T) {
	for a := range 256 {
		for b := range 256 {
			got, e := sets.Below(a, b)
			if len(elements(a)) != len(elements(b)) {
				if got || e != api.ErrShape {
					t.Errorf("Below(%d, %d) = %v, %d", a, b, got, e)
				}
				continue
			}
			if e != api.OK || got != galeBelow(a, b) {
				t.Errorf("Below(%d, %d) = %v, %d", a, b, got, e)
			}
		}
	}
	for _, a := range probe.Wide() {
		for _, b := range probe.Wide() {
			if a >= 0 && a <= 255 && b >= 0 && b <= 255 {
				continue
			}
			if got, e := sets.Below(a, b); got || e != api.ErrArg {
				t.Errorf("Below(%d, %d) = %v, %d", a, b, got, e)
			}
		}
	}
}

func TestBelowEdges(t *testing.T) {
	for _, x := range []struct {
		a, b int
		want bool
	}{
		{0, 0, true}, {255, 255, true}, {5, 6, true}, {6, 5, false},
		// 0 3 and 1 2: neither is below the other.
		{9, 6, false}, {6, 9, false},
	} {
		if got, e := sets.Below(x.a, x.b); e != api.OK || got != x.want {
			t.Errorf("Below(%d, %d) = %v, %d", x.a, x.b, got, e)
		}
	}
}
