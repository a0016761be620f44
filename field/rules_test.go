package field_test

import (
	"fmt"
	"math"
	"slices"
	"testing"

	"parterre/api"
	"parterre/field"
)

// face is a call by its name: what it answers, as a list, and its error.
type face struct {
	name     string
	elements int // how many of a and b are elements
	call     func(f api.Field, a, b int) ([]int, api.Errno)
}

func faces() []face {
	one := func(x int, e api.Errno) ([]int, api.Errno) {
		if x == 0 && e != api.OK {
			return nil, e
		}
		return []int{x}, e
	}
	return []face{
		{"Add", 2, func(f api.Field, a, b int) ([]int, api.Errno) { return one(field.Add(f, a, b)) }},
		{"Mul", 2, func(f api.Field, a, b int) ([]int, api.Errno) { return one(field.Mul(f, a, b)) }},
		{"Inv", 1, func(f api.Field, a, _ int) ([]int, api.Errno) { return one(field.Inv(f, a)) }},
		{"Pow", 1, func(f api.Field, a, b int) ([]int, api.Errno) { return one(field.Pow(f, a, b)) }},
		{"Root", 0, func(f api.Field, _, _ int) ([]int, api.Errno) { return one(field.Root(f)) }},
		{"Log", 1, func(f api.Field, a, _ int) ([]int, api.Errno) { return one(field.Log(f, a)) }},
		{"Trace", 1, func(f api.Field, a, _ int) ([]int, api.Errno) { return one(field.Trace(f, a)) }},
		{"Squares", 0, func(f api.Field, _, _ int) ([]int, api.Errno) { return field.Squares(f) }},
	}
}

// badFields are fields with what Check says of them.
func badFields() map[api.Errno][]api.Field {
	return map[api.Errno][]api.Field{
		api.ErrRange: {
			{}, {Prime: 4, Degree: 1, Low: []int{0}}, {Prime: 2, Degree: 0}, {Prime: 2, Degree: 7, Low: make([]int, 7)},
			{Prime: 67, Degree: 1, Low: []int{0}}, {Prime: 3, Degree: 1, Low: []int{3}}, {Prime: 3, Degree: 1, Low: []int{-1}},
		},
		api.ErrShape: {{Prime: 2, Degree: 1}, {Prime: 2, Degree: 3, Low: []int{1, 1}}, {Prime: 5, Degree: 1, Low: []int{1, 1}}},
		api.ErrNone:  {{Prime: 2, Degree: 2, Low: []int{1, 0}}, {Prime: 5, Degree: 2, Low: []int{1, 0}}},
	}
}

// TestErrorNumbers has P3's numbers.
func TestErrorNumbers(t *testing.T) {
	for want, e := range []api.Errno{api.OK, api.ErrRange, api.ErrShape, api.ErrFull, api.ErrNone, api.ErrSyntax, api.ErrTwice} {
		if int(e) != want {
			t.Errorf("error %d is %d", want, e)
		}
	}
	if api.MaxOrder != 64 {
		t.Errorf("MaxOrder is %d", api.MaxOrder)
	}
}

// TestAllSayFirstWhatCheckSays has F1's order of errors: the field's ahead of those of 0, of elements and of powers (P3), and nothing beside them (P1).
func TestAllSayFirstWhatCheckSays(t *testing.T) {
	for want, fields := range badFields() {
		for _, f := range fields {
			for _, c := range faces() {
				for _, a := range []int{1, 0, -1, 99} {
					got, e := c.call(f, a, -1)
					if e != want || len(got) != 0 {
						t.Errorf("%v: %s(%d, -1): got %v, error %d, want %d", f, c.name, a, got, e, want)
					}
				}
			}
		}
	}
}

// TestElementsThatAreNone has F1's last error: of each element, at the bounds and far beyond them.
func TestElementsThatAreNone(t *testing.T) {
	for _, s := range sizes() {
		f := least(t, s.p, s.k)
		for _, c := range faces() {
			for _, bad := range []int{-1, s.q, s.q + 1, math.MinInt, math.MaxInt} {
				if c.elements > 0 {
					got, e := c.call(f, bad, 1)
					wantRange(t, fmt.Sprintf("%v: %s(%d, 1)", f, c.name, bad), got, e)
					got, e = c.call(f, bad, -1)
					wantRange(t, fmt.Sprintf("%v: %s(%d, -1)", f, c.name, bad), got, e)
				}
				if c.elements > 1 {
					got, e := c.call(f, 0, bad)
					wantRange(t, fmt.Sprintf("%v: %s(0, %d)", f, c.name, bad), got, e)
				}
			}
			if got, e := c.call(f, s.q-1, s.q-1); e != api.OK || len(got) == 0 {
				t.Errorf("%v: %s of q - 1: got %v, error %d", f, c.name, got, e)
			}
		}
	}
}

func wantRange(t *testing.T, name string, got []int, e api.Errno) {
	t.Helper()
	if e != api.ErrRange || len(got) != 0 {
		t.Errorf("%s: got %v, error %d", name, got, e)
	}
}

// TestNoNumberPanics has P1: each face at numbers from end to end, in each place.
func TestNoNumberPanics(t *testing.T) {
	ends := []int{math.MinInt, math.MinInt + 1, -65, -1, 0, 1, 2, 3, 6, 7, 63, 64, 65, 1 << 32, math.MaxInt - 1, math.MaxInt}
	for _, p := range ends {
		for _, k := range ends {
			for _, low := range ends {
				for n := range 9 {
					f := api.Field{Prime: p, Degree: k, Low: slices.Repeat([]int{low}, n)}
					e := field.Check(f)
					for _, c := range faces() {
						if got, e2 := c.call(f, p, k); e != api.OK && (e2 != e || len(got) != 0) {
							t.Fatalf("%v: %s: got %v, error %d; Check says %d", f, c.name, got, e2, e)
						}
					}
				}
			}
		}
	}
}

// TestNothingIsWrittenOrKept has P2 and P4: Low, and what lies behind its length, stays; what is changed after a call is not to be seen in another.
func TestNothingIsWrittenOrKept(t *testing.T) {
	memory := []int{1, 1, 0, -7, 99, 1}
	f := api.Field{Prime: 2, Degree: 3, Low: memory[:3]}
	for _, c := range faces() {
		first, e := c.call(f, 5, 6)
		if e != api.OK {
			t.Fatalf("%s: error %d", c.name, e)
		}
		if !slices.Equal(memory, []int{1, 1, 0, -7, 99, 1}) {
			t.Fatalf("%s wrote into %v", c.name, memory)
		}
		want := slices.Clone(first)
		for i := range first {
			first[i] = -5
		}
		second, e := c.call(f, 5, 6)
		if e != api.OK || !slices.Equal(second, want) {
			t.Errorf("%s: got %v, error %d; want %v again", c.name, second, e, want)
		}
	}
	before, _ := field.Mul(f, 4, 4)
	memory[1], memory[2] = 0, 1
	after, _ := field.Mul(f, 4, 4)
	if before != 6 || after != 7 {
		t.Errorf("Mul 4 4: got %d, and of another Low %d; want 6 and 7", before, after)
	}
}

// TestWhatComesOutIsFresh has P2: no two answers share memory.
func TestWhatComesOutIsFresh(t *testing.T) {
	for _, s := range sizes() {
		a := least(t, s.p, s.k)
		b := least(t, s.p, s.k)
		want := slices.Clone(b.Low)
		a.Low[0] = -1
		if c := least(t, s.p, s.k); !slices.Equal(b.Low, want) || !slices.Equal(c.Low, want) {
			t.Errorf("Least(%d, %d): got %v and %v, want %v", s.p, s.k, b.Low, c.Low, want)
		}
		x, _ := field.Squares(b)
		y, _ := field.Squares(b)
		want = slices.Clone(y)
		x[0] = -1
		if z, _ := field.Squares(b); !slices.Equal(y, want) || !slices.Equal(z, want) {
			t.Errorf("%v: Squares: got %v and %v, want %v", b, y, z, want)
		}
	}
}
