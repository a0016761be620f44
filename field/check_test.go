package field_test

import (
	"math"
	"slices"
	"testing"

	"parterre/api"
	"parterre/field"
)

// TestCheckTellsEachError has F1's errors, each alone and where several apply.
func TestCheckTellsEachError(t *testing.T) {
	for _, c := range []struct {
		name string
		f    api.Field
		want api.Errno
	}{
		{"two elements", api.Field{Prime: 2, Degree: 1, Low: []int{0}}, api.OK},
		{"order at MaxOrder", api.Field{Prime: 2, Degree: 6, Low: []int{1, 1, 0, 0, 0, 0}}, api.OK},
		{"greatest prime", api.Field{Prime: 61, Degree: 1, Low: []int{60}}, api.OK},
		{"nothing at all", api.Field{}, api.ErrRange},
		{"prime 1", api.Field{Prime: 1, Degree: 1, Low: []int{0}}, api.ErrRange},
		{"prime 0", api.Field{Prime: 0, Degree: 1, Low: []int{0}}, api.ErrRange},
		{"prime below 0", api.Field{Prime: -2, Degree: 1, Low: []int{0}}, api.ErrRange},
		{"4 is no prime", api.Field{Prime: 4, Degree: 1, Low: []int{0}}, api.ErrRange},
		{"9 is no prime", api.Field{Prime: 9, Degree: 1, Low: []int{0}}, api.ErrRange},
		{"63 is no prime", api.Field{Prime: 63, Degree: 1, Low: []int{0}}, api.ErrRange},
		{"64 is no prime", api.Field{Prime: 64, Degree: 1, Low: []int{0}}, api.ErrRange},
		{"prime above MaxOrder", api.Field{Prime: 67, Degree: 1, Low: []int{0}}, api.ErrRange},
		{"degree 0", api.Field{Prime: 2, Degree: 0}, api.ErrRange},
		{"degree below 0", api.Field{Prime: 2, Degree: -1}, api.ErrRange},
		{"order 128", api.Field{Prime: 2, Degree: 7, Low: []int{1, 1, 0, 0, 0, 0, 0}}, api.ErrRange},
		{"order 81", api.Field{Prime: 3, Degree: 4, Low: []int{2, 1, 0, 0}}, api.ErrRange},
		{"order 121", api.Field{Prime: 11, Degree: 2, Low: []int{1, 0}}, api.ErrRange},
		{"Low is missing", api.Field{Prime: 2, Degree: 1}, api.ErrShape},
		{"Low too short", api.Field{Prime: 2, Degree: 2, Low: []int{1}}, api.ErrShape},
		{"Low too long", api.Field{Prime: 2, Degree: 2, Low: []int{1, 1, 0}}, api.ErrShape},
		{"Low too long by its 1 at the top", api.Field{Prime: 2, Degree: 2, Low: []int{1, 1, 1}}, api.ErrShape},
		{"Low at p", api.Field{Prime: 2, Degree: 2, Low: []int{1, 2}}, api.ErrRange},
		{"Low at p, degree 1", api.Field{Prime: 7, Degree: 1, Low: []int{7}}, api.ErrRange},
		{"Low below 0", api.Field{Prime: 3, Degree: 2, Low: []int{-1, 0}}, api.ErrRange},
		{"x x and 1 of 2", api.Field{Prime: 2, Degree: 2, Low: []int{1, 0}}, api.ErrNone},
		{"x divides it", api.Field{Prime: 3, Degree: 2, Low: []int{0, 1}}, api.ErrNone},
		{"two quadratics make it", api.Field{Prime: 2, Degree: 4, Low: []int{1, 0, 1, 0}}, api.ErrNone},
		{"two cubics make it", api.Field{Prime: 2, Degree: 6, Low: []int{1, 1, 1, 1, 1, 1}}, api.ErrNone},
		{"order ahead of shape", api.Field{Prime: 2, Degree: 7}, api.ErrRange},
		{"prime ahead of shape", api.Field{Prime: 4, Degree: 2, Low: []int{1}}, api.ErrRange},
		{"degree ahead of shape", api.Field{Prime: 2, Degree: 0, Low: []int{1}}, api.ErrRange},
		{"shape ahead of Low's numbers", api.Field{Prime: 2, Degree: 2, Low: []int{9}}, api.ErrShape},
		{"shape ahead of a product", api.Field{Prime: 2, Degree: 2, Low: []int{0, 0, 0}}, api.ErrShape},
		{"Low's numbers ahead of a product", api.Field{Prime: 2, Degree: 2, Low: []int{0, -2}}, api.ErrRange},
	} {
		if got := field.Check(c.f); got != c.want {
			t.Errorf("%s: got %d, want %d", c.name, got, c.want)
		}
	}
}

// TestCheckKnowsAllPolynomials holds F1's irreducible against all products.
func TestCheckKnowsAllPolynomials(t *testing.T) {
	for _, s := range sizes() {
		for n, bad := range reducible(s) {
			want := api.OK
			if bad {
				want = api.ErrNone
			}
			f := api.Field{Prime: s.p, Degree: s.k, Low: digits(n, s.p, s.k)}
			if got := field.Check(f); got != want {
				t.Errorf("Check(%v): got %d, want %d", f, got, want)
			}
		}
	}
}

// TestCheckCountsPolynomials holds how many are irreducible against Gauss's numbers.
func TestCheckCountsPolynomials(t *testing.T) {
	for _, c := range []struct{ p, k, want int }{
		{2, 1, 2}, {2, 2, 1}, {2, 3, 2}, {2, 4, 3}, {2, 5, 6}, {2, 6, 9},
		{3, 1, 3}, {3, 2, 3}, {3, 3, 8}, {5, 2, 10}, {7, 2, 21}, {61, 1, 61},
	} {
		got := 0
		for n := range power(c.p, c.k) {
			if field.Check(api.Field{Prime: c.p, Degree: c.k, Low: digits(n, c.p, c.k)}) == api.OK {
				got++
			}
		}
		if got != c.want {
			t.Errorf("of %d, %d: got %d, want %d", c.p, c.k, got, c.want)
		}
	}
}

// TestCheckAtAllSmallNumbers asks each Prime and Degree around the bounds, the polynomial being x to the power of k, which only degree 1 lets be.
func TestCheckAtAllSmallNumbers(t *testing.T) {
	known := map[size]int{}
	for _, s := range sizes() {
		known[size{p: s.p, k: s.k}] = s.q
	}
	for p := -3; p <= 140; p++ {
		for k := -3; k <= 10; k++ {
			want := api.ErrNone
			if known[size{p: p, k: k}] == 0 {
				want = api.ErrRange
			} else if k == 1 {
				want = api.OK
			}
			f := api.Field{Prime: p, Degree: k, Low: make([]int, max(k, 0))}
			if got := field.Check(f); got != want {
				t.Errorf("Check(%v): got %d, want %d", f, got, want)
			}
		}
	}
}

// TestLeast has F2: examples, and against all fields.
func TestLeast(t *testing.T) {
	for _, c := range []struct {
		p, k int
		want []int
	}{
		{2, 1, []int{0}}, {2, 2, []int{1, 1}}, {2, 3, []int{1, 1, 0}}, {2, 4, []int{1, 1, 0, 0}},
		{2, 5, []int{1, 0, 1, 0, 0}}, {2, 6, []int{1, 1, 0, 0, 0, 0}},
		{3, 1, []int{0}}, {3, 2, []int{1, 0}}, {3, 3, []int{1, 2, 0}},
		{5, 2, []int{2, 0}}, {7, 1, []int{0}}, {7, 2, []int{1, 0}}, {61, 1, []int{0}},
	} {
		f := least(t, c.p, c.k)
		if f.Prime != c.p || f.Degree != c.k || !slices.Equal(f.Low, c.want) {
			t.Errorf("Least(%d, %d): got %v, want Low %v", c.p, c.k, f, c.want)
		}
	}
	for _, s := range sizes() {
		f := least(t, s.p, s.k)
		want := digits(slices.Index(reducible(s), false), s.p, s.k)
		if f.Prime != s.p || f.Degree != s.k || !slices.Equal(f.Low, want) {
			t.Errorf("Least(%d, %d): got %v, want Low %v", s.p, s.k, f, want)
		}
		if e := field.Check(f); e != api.OK {
			t.Errorf("Check of Least(%d, %d): error %d", s.p, s.k, e)
		}
	}
}

// TestLeastOfWrongNumbers has F2's error, and what stands beside it (P1).
func TestLeastOfWrongNumbers(t *testing.T) {
	for _, c := range [][2]int{
		{0, 1}, {1, 1}, {-2, 1}, {4, 1}, {6, 1}, {49, 1}, {63, 1}, {64, 1}, {67, 1}, {65537, 1},
		{2, 0}, {2, -1}, {2, 7}, {3, 4}, {5, 3}, {7, 3}, {11, 2}, {61, 2},
		{2, 63}, {2, 64}, {2, 65}, {2, math.MaxInt}, {2, math.MinInt}, {61, math.MaxInt},
		{math.MaxInt, 1}, {math.MinInt, 1}, {math.MaxInt, math.MaxInt}, {1 << 32, 2},
	} {
		f, e := field.Least(c[0], c[1])
		if e != api.ErrRange || f.Prime != 0 || f.Degree != 0 || len(f.Low) != 0 {
			t.Errorf("Least(%d, %d): got %v, error %d", c[0], c[1], f, e)
		}
	}
}
