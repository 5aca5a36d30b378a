package arrange_test

import (
	"slices"
	"testing"

	"rota/api"
	"rota/arrange"
)

// hold all calls to the words of P29 to P31.
func hold(t *testing.T, x given) {
	t.Helper()
	faces := allFaces(x.l)
	holdCharacteristic(t, x, polynomial(x.d, x.l))
	holdSides(t, x, faces)
	holdRegions(t, x, faces)
	holdFaces(t, x, faces)
}

func holdCharacteristic(t *testing.T, x given, want []int64) {
	t.Helper()
	if got, e := arrange.Characteristic(x.d, x.l); e != api.OK || !slices.Equal(got, want) {
		t.Errorf("Characteristic(%v) = %v, %d, want %v", x, got, e, want)
	}
}

// regionsOf all faces, by Above, rising.
func regionsOf(l []api.Plane, faces []api.Signs) []api.Signs {
	regions := slices.DeleteFunc(slices.Clone(faces), func(f api.Signs) bool { return planesOf(l, f) != 0 })
	slices.SortFunc(regions, func(a, b api.Signs) int { return a.Above - b.Above })
	return regions
}

func holdSides(t *testing.T, x given, faces []api.Signs) {
	t.Helper()
	want := regionsOf(x.l, faces)
	if got, e := arrange.Sides(x.d, x.l); e != api.OK || !slices.Equal(got, want) {
		t.Errorf("Sides(%v) = %v, %d, want %v", x, got, e, want)
	}
}

// holdRegions: the second number is the sum of coefficients; and how many are
// bounded, if the planes have normals in all directions.
func holdRegions(t *testing.T, x given, faces []api.Signs) {
	t.Helper()
	regions, sum, bounded := regionsOf(x.l, faces), 0, 0
	for _, c := range polynomial(x.d, x.l) {
		sum += int(c)
	}
	sum = max(sum, -sum)
	for _, r := range regions {
		if isBounded(x.d, x.l, r) {
			bounded++
		}
	}
	a, b, e := arrange.Regions(x.d, x.l)
	if e != api.OK || a != len(regions) || b != sum {
		t.Errorf("Regions(%v) = %d, %d, %d, want %d, %d", x, a, b, e, len(regions), sum)
	}
	if dimension, _ := together(x.d, x.l, 1<<len(x.l)-1); dimension == 0 && b != bounded {
		t.Errorf("Regions(%v) = %d, %d, but %d are bounded", x, a, b, bounded)
	}
}

// holdFaces: and Euler's sum is that of the space.
func holdFaces(t *testing.T, x given, faces []api.Signs) {
	t.Helper()
	want := make([]int, x.d+1)
	for _, f := range faces {
		dimension, _ := together(x.d, x.l, planesOf(x.l, f))
		want[dimension]++
	}
	got, e := arrange.Faces(x.d, x.l)
	if e != api.OK || !slices.Equal(got, want) {
		t.Errorf("Faces(%v) = %v, %d, want %v", x, got, e, want)
	}
	sum := 0
	for i, n := range got {
		sum += n * (1 - 2*((x.d-i)%2))
	}
	if sum != 1 {
		t.Errorf("Faces(%v) = %v, by turns %d", x, got, sum)
	}
}

func TestKnown(t *testing.T) {
	for _, x := range known() {
		hold(t, x)
	}
}

// TestPairs of all small planes.
func TestPairs(t *testing.T) {
	for _, x := range slices.Concat(pairs(1, 2), pairs(2, 1), pairs(3, 1)) {
		hold(t, x)
	}
}

// TestMany lists of up to six planes, with few numbers and with many.
func TestMany(t *testing.T) {
	for _, x := range slices.Concat(
		jumpPlanes(1, 2, 300), jumpPlanes(2, 1, 300), jumpPlanes(3, 1, 100),
		jumpPlanes(1, 1000, 50), jumpPlanes(2, 1000, 50), jumpPlanes(2, 3, 50), jumpPlanes(3, 2, 50), jumpPlanes(3, 1000, 30),
	) {
		hold(t, x)
	}
}

// TestNearly: what lies beside a point, however little, does not go through it.
func TestNearly(t *testing.T) {
	for _, x := range slices.Concat(nearly(1, 60), nearly(2, 60), nearly(3, 30), hadamard()) {
		if e := arrange.Check(x.d, x.l); e != api.OK {
			t.Fatal(x, e)
		}
		hold(t, x)
	}
}

// TestByHand: answers that stand in books, or can be counted on paper.
func TestByHand(t *testing.T) {
	for _, x := range []struct {
		given
		powers       []int64
		all, bounded int
		faces        []int
	}{
		{given{1, nil}, []int64{0, 1}, 1, 1, []int{0, 1}},
		{given{2, nil}, []int64{0, 0, 1}, 1, 1, []int{0, 0, 1}},
		{given{3, nil}, []int64{0, 0, 0, 1}, 1, 1, []int{0, 0, 0, 1}},
		{given{1, planes(1, -3, 5)}, []int64{-1, 1}, 2, 0, []int{1, 2}},
		{given{1, planes(1, 1, 0, 1, 1)}, []int64{-2, 1}, 3, 1, []int{2, 3}},
		// The same point three times, and another one.
		{given{1, planes(1, 2, 4, -3, -6, 1, 2, 1, 3)}, []int64{-2, 1}, 3, 1, []int{2, 3}},
		{given{2, planes(2, 1, 0, 0, 0, 1, 0, 1, 1, 1)}, []int64{3, -3, 1}, 7, 1, []int{3, 9, 7}},
		{given{2, planes(2, 1, 0, 0, 0, 1, 0, 1, 1, 0)}, []int64{2, -3, 1}, 6, 0, []int{1, 6, 6}},
		// Parallel lines: none is bounded, but two lie between two.
		{given{2, planes(2, 1, 1, 0, 1, 1, 1, 2, 2, 5)}, []int64{0, -3, 1}, 4, 2, []int{0, 3, 4}},
		{given{3, planes(3, 5, -7, 1, 1000)}, []int64{0, 0, -1, 1}, 2, 0, []int{0, 0, 1, 2}},
		{given{3, cube()}, []int64{-8, 12, -6, 1}, 27, 1, []int{8, 36, 54, 27}},
		{given{3, orders()}, []int64{-6, 11, -6, 1}, 24, 0, []int{1, 14, 36, 24}},
		{given{3, shi()}, []int64{0, 9, -6, 1}, 16, 4, []int{0, 6, 21, 16}},
		{given{3, linial()}, []int64{0, 3, -3, 1}, 7, 1, []int{0, 3, 9, 7}},
		{given{3, generic()}, []int64{-20, 15, -6, 1}, 42, 10, []int{20, 75, 96, 42}},
	} {
		holdCharacteristic(t, x.given, x.powers)
		if a, b, e := arrange.Regions(x.d, x.l); e != api.OK || a != x.all || b != x.bounded {
			t.Errorf("Regions(%v) = %d, %d, %d, want %d, %d", x.given, a, b, e, x.all, x.bounded)
		}
		if got, e := arrange.Faces(x.d, x.l); e != api.OK || !slices.Equal(got, x.faces) {
			t.Errorf("Faces(%v) = %v, %d, want %v", x.given, got, e, x.faces)
		}
		if got, e := arrange.Sides(x.d, x.l); e != api.OK || len(got) != x.all {
			t.Errorf("Sides(%v) = %v, %d, want %d of them", x.given, got, e, x.all)
		}
	}
}

func TestSidesByHand(t *testing.T) {
	for _, x := range []struct {
		given
		want []api.Signs
	}{
		{given{2, nil}, []api.Signs{{}}},
		{given{1, planes(1, 1, 0, 1, 1)}, []api.Signs{{Below: 3}, {Above: 1, Below: 2}, {Above: 3}}},
		{given{1, planes(1, -1, 0, 1, 1)}, []api.Signs{{Below: 3}, {Above: 1, Below: 2}, {Above: 2, Below: 1}}},
		// The same plane, and the same from the other side.
		{given{3, planes(3, 1, 2, 3, 4, 2, 4, 6, 8, -1, -2, -3, -4)}, []api.Signs{{Above: 3, Below: 4}, {Above: 4, Below: 3}}},
		// Two lines and one through the point that they have together.
		{given{2, planes(2, 1, 0, 1, 0, 1, 1, 1, 1, 2)}, []api.Signs{
			{Below: 7}, {Above: 1, Below: 6}, {Above: 2, Below: 5}, {Above: 5, Below: 2}, {Above: 6, Below: 1}, {Above: 7},
		}},
	} {
		if got, e := arrange.Sides(x.d, x.l); e != api.OK || !slices.Equal(got, x.want) {
			t.Errorf("Sides(%v) = %v, %d, want %v", x.given, got, e, x.want)
		}
	}
}

// pointsOutside all planes, modulo a prime.
func pointsOutside(d int, l []api.Plane, q int) int {
	power := 1
	for range d {
		power *= q
	}
	count := 0
	for point := range power {
		if !slices.ContainsFunc(l, func(p api.Plane) bool { return isIn(p, point, q) }) {
			count++
		}
	}
	return count
}

// isIn: does a plane go through a point, whose coordinates are the digits of a
// number?
func isIn(p api.Plane, point, q int) bool {
	sum := -p.At
	for _, v := range p.Normal {
		sum += v * (point % q)
		point /= q
	}
	return sum%q == 0
}

// TestPoints: by Crapo and Rota, the value at a prime that divides no
// determinant is how many points lie in no plane, modulo that prime.
func TestPoints(t *testing.T) {
	for _, x := range slices.Concat(jumpPlanes(1, 2, 50), jumpPlanes(2, 1, 50), jumpPlanes(3, 1, 30), known()[:3], known()[5:9]) {
		q := 29
		coefficients, e := arrange.Characteristic(x.d, x.l)
		value := 0
		for _, c := range slices.Backward(coefficients) {
			value = value*q + int(c)
		}
		if want := pointsOutside(x.d, x.l, q); e != api.OK || value != want {
			t.Errorf("Characteristic(%v) = %v, %d: %d at %d, want %d", x, coefficients, e, value, q, want)
		}
	}
}
