package field_test

import (
	"fmt"
	"math"
	"slices"
	"testing"

	"parterre/api"
	"parterre/field"
)

// TestExamples has the chapter's table.
func TestExamples(t *testing.T) {
	f := least(t, 2, 3)
	if !slices.Equal(f.Low, []int{1, 1, 0}) {
		t.Errorf("Least: got %v", f.Low)
	}
	got, e := field.Mul(f, 4, 2)
	is(t, "Mul", got, e, 3, api.OK)
	got, e = field.Inv(f, 2)
	is(t, "Inv", got, e, 5, api.OK)
	got, e = field.Root(f)
	is(t, "Root", got, e, 2, api.OK)
	got, e = field.Log(f, 3)
	is(t, "Log", got, e, 3, api.OK)
	got, e = field.Trace(f, 1)
	is(t, "Trace", got, e, 1, api.OK)
	squares, e := field.Squares(least(t, 7, 1))
	if e != api.OK || !slices.Equal(squares, []int{1, 2, 4}) {
		t.Errorf("Squares: got %v, error %d", squares, e)
	}
}

// TestSumsAndProducts has F1's and F3's Add and Mul against plain ones, of all elements of each field.
func TestSumsAndProducts(t *testing.T) {
	for _, f := range someFields() {
		all := tablesOf(t, f)
		for a := range orderOf(f) {
			for b := range orderOf(f) {
				if got, want := all.sum[a][b], plainSum(f, a, b); got != want {
					t.Fatalf("%v: Add(%d, %d): got %d, want %d", f, a, b, got, want)
				}
				if got, want := all.product[a][b], plainProduct(f, a, b); got != want {
					t.Fatalf("%v: Mul(%d, %d): got %d, want %d", f, a, b, got, want)
				}
			}
		}
	}
}

// TestDegreeOne: there the elements are the numbers modulo p, whatever Low is.
func TestDegreeOne(t *testing.T) {
	for low := range 13 {
		f := api.Field{Prime: 13, Degree: 1, Low: []int{low}}
		for a := range 13 {
			for b := range 13 {
				got, e := field.Add(f, a, b)
				is(t, fmt.Sprintf("%v: Add %d %d", f, a, b), got, e, (a+b)%13, api.OK)
				got, e = field.Mul(f, a, b)
				is(t, fmt.Sprintf("%v: Mul %d %d", f, a, b), got, e, a*b%13, api.OK)
			}
			got, e := field.Trace(f, a)
			is(t, fmt.Sprintf("%v: Trace %d", f, a), got, e, a, api.OK)
		}
		got, e := field.Root(f)
		is(t, fmt.Sprintf("%v: Root", f), got, e, 2, api.OK)
	}
}

// TestInv has F3's Inv: all elements, the edges 0 and q - 1 among them.
func TestInv(t *testing.T) {
	for _, f := range someFields() {
		got, e := field.Inv(f, 0)
		is(t, fmt.Sprintf("%v: Inv 0", f), got, e, 0, api.ErrNone)
		for a := 1; a < orderOf(f); a++ {
			got, e := field.Inv(f, a)
			if e != api.OK || got < 0 || got >= orderOf(f) || plainProduct(f, a, got) != 1 {
				t.Errorf("%v: Inv(%d): got %d, error %d", f, a, got, e)
			}
		}
	}
}

// TestPow has F3's Pow factor by factor, past the first turn of all elements.
func TestPow(t *testing.T) {
	for _, s := range sizes() {
		f := least(t, s.p, s.k)
		for a := range s.q {
			want := 1
			for n := range s.q + 2 {
				got, e := field.Pow(f, a, n)
				if got != want || e != api.OK {
					t.Fatalf("%v: Pow(%d, %d): got %d, error %d; want %d", f, a, n, got, e, want)
				}
				want = plainProduct(f, want, a)
			}
		}
	}
}

// TestPowAtTheEdges: 0 factors, 0 as a factor, as many factors as can be, and fewer than none.
func TestPowAtTheEdges(t *testing.T) {
	for _, f := range someFields() {
		q := orderOf(f)
		for _, a := range []int{0, 1, q / 2, q - 1} {
			got, e := field.Pow(f, a, 0)
			is(t, fmt.Sprintf("%v: Pow %d 0", f, a), got, e, 1, api.OK)
			got, e = field.Pow(f, a, 1)
			is(t, fmt.Sprintf("%v: Pow %d 1", f, a), got, e, a, api.OK)
			for _, n := range []int{-1, -2, math.MinInt} {
				got, e = field.Pow(f, a, n)
				is(t, fmt.Sprintf("%v: Pow %d %d", f, a, n), got, e, 0, api.ErrRange)
			}
		}
		got, e := field.Pow(f, 0, math.MaxInt)
		is(t, fmt.Sprintf("%v: Pow 0 MaxInt", f), got, e, 0, api.OK)
		want := 1
		for range math.MaxInt % (q - 1) {
			want = plainProduct(f, want, q-1)
		}
		got, e = field.Pow(f, q-1, math.MaxInt)
		is(t, fmt.Sprintf("%v: Pow q-1 MaxInt", f), got, e, want, api.OK)
	}
}

// plainPowers gives the powers of a from 1 on until one comes again.
func plainPowers(f api.Field, a int) []int {
	out := []int{1}
	for x := a; !slices.Contains(out, x); x = plainProduct(f, x, a) {
		out = append(out, x)
	}
	return out
}

// TestRootAndLog has F4's Root and Log of all elements.
func TestRootAndLog(t *testing.T) {
	for _, f := range someFields() {
		q, want := orderOf(f), 1
		powers := plainPowers(f, want)
		for len(powers) < q-1 {
			want++
			powers = plainPowers(f, want)
		}
		got, e := field.Root(f)
		is(t, fmt.Sprintf("%v: Root", f), got, e, want, api.OK)
		for n, a := range powers {
			got, e := field.Log(f, a)
			is(t, fmt.Sprintf("%v: Log %d", f, a), got, e, n, api.OK)
		}
		got, e = field.Log(f, 0)
		is(t, fmt.Sprintf("%v: Log 0", f), got, e, 0, api.ErrNone)
	}
}

// TestKnownRoots has roots that books tell: the least ones of primes, and of fields where x has too few powers.
func TestKnownRoots(t *testing.T) {
	for _, c := range []struct {
		f    api.Field
		want int
	}{
		{least(t, 2, 1), 1}, {least(t, 3, 1), 2}, {least(t, 7, 1), 3}, {least(t, 23, 1), 5},
		{least(t, 31, 1), 3}, {least(t, 41, 1), 6}, {least(t, 61, 1), 2},
		{least(t, 3, 2), 4}, // x x is -1: x has four powers, x + 1 has eight
		{api.Field{Prime: 2, Degree: 4, Low: []int{1, 1, 1, 1}}, 3}, // x has five powers, x + 1 fifteen
	} {
		got, e := field.Root(c.f)
		is(t, fmt.Sprintf("%v: Root", c.f), got, e, c.want, api.OK)
	}
}

// TestTrace has F4's Trace, sum by sum.
func TestTrace(t *testing.T) {
	for _, f := range someFields() {
		for a := range orderOf(f) {
			want, x := 0, a
			for range f.Degree {
				want = plainSum(f, want, x)
				y := 1
				for range f.Prime {
					y = plainProduct(f, y, x)
				}
				x = y
			}
			got, e := field.Trace(f, a)
			is(t, fmt.Sprintf("%v: Trace %d", f, a), got, e, want, api.OK)
		}
	}
}

// TestSquares has F4's Squares.
func TestSquares(t *testing.T) {
	for _, f := range someFields() {
		var want []int
		for a := 1; a < orderOf(f); a++ {
			want = append(want, plainProduct(f, a, a))
		}
		slices.Sort(want)
		want = slices.Compact(want)
		got, e := field.Squares(f)
		if e != api.OK || !slices.Equal(got, want) {
			t.Errorf("%v: Squares: got %v, error %d; want %v", f, got, e, want)
		}
	}
}
