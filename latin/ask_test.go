package latin_test

import (
	"fmt"
	"slices"
	"testing"

	"parterre/api"
	"parterre/latin"
)

// TestOrthogonalOneByOne has L3: all pairs of squares of up to 3 rows, and many of 4.
func TestOrthogonalOneByOne(t *testing.T) {
	told := map[int]int{}
	for n := 1; n <= 4; n++ {
		squares := all(n)
		for i, a := range squares {
			if n == 4 && i%16 != 0 {
				continue
			}
			for _, b := range squares {
				got, e := latin.Orthogonal(a, b)
				if want := orthogonal(a, b); got != want || e != api.OK {
					t.Errorf("%s with %v: got %v, error %d", name("Orthogonal", a), b.Cells, got, e)
				}
				if got {
					told[n]++
				}
			}
		}
	}
	if told[1] != 1 || told[2] != 0 || told[3] != 72 || told[4] == 0 {
		t.Errorf("so many are orthogonal: %v", told)
	}
}

// TestOrthogonalOfGreat has L3: of 5 to 8 rows, squares with themselves, with others, and with some of which one pair alone is there twice.
func TestOrthogonalOfGreat(t *testing.T) {
	squares := great()
	for _, f := range smallFields() {
		for a := 1; a < orderOf(f); a++ {
			s, _ := latin.Made(f, a)
			squares = append(squares, s)
		}
	}
	for _, a := range squares {
		for _, b := range squares {
			got, e := latin.Orthogonal(a, b)
			if a.Side != b.Side {
				if got || e != api.ErrShape {
					t.Errorf("%s with %v: got %v, error %d", name("Orthogonal", a), b, got, e)
				}
			} else if got != orthogonal(a, b) || e != api.OK {
				t.Errorf("%s with %v: got %v, error %d", name("Orthogonal", a), b, got, e)
			}
		}
	}
}

// TestOrthogonalOfUnlikeSides has L3's ErrShape.
func TestOrthogonalOfUnlikeSides(t *testing.T) {
	for n := 1; n <= 8; n++ {
		for m := 1; m <= 8; m++ {
			got, e := latin.Orthogonal(cyclic(n), cyclic(m))
			if n != m && (got || e != api.ErrShape) || n == m && (got != (n == 1) || e != api.OK) {
				t.Errorf("Orthogonal of %d and %d rows: got %v, error %d", n, m, got, e)
			}
		}
	}
}

// TestTransversalsOneByOne has L3.
func TestTransversalsOneByOne(t *testing.T) {
	for _, s := range slices.Concat(small(), great()) {
		if s.Side < 8 {
			got, e := latin.Transversals(s)
			wantNumber(t, name("Transversals", s), got, e, transversals(s))
		}
	}
}

// TestTransversalsOfTheBooks has L3.
func TestTransversalsOfTheBooks(t *testing.T) {
	for i, want := range []int{1, 0, 3, 0, 15, 0, 133} {
		got, e := latin.Transversals(cyclic(i + 1))
		wantNumber(t, fmt.Sprint("Transversals of Cyclic of ", i+1), got, e, want)
	}
	got, e := latin.Transversals(bitwise(4))
	wantNumber(t, "Transversals of the group of Klein", got, e, 8)
	got, e = latin.Transversals(sixth())
	wantNumber(t, "Transversals of the permutations of 3 points", got, e, 0)
}

// TestTooManyTransversals has L3's ErrFull.
func TestTooManyTransversals(t *testing.T) {
	for _, s := range great() {
		got, e := latin.Transversals(s)
		if s.Side == 8 && (got != 0 || e != api.ErrFull) || s.Side < 8 && e != api.OK {
			t.Errorf("%s: got %d, error %d", name("Transversals", s), got, e)
		}
	}
}

// TestIntercalatesOneByOne has L3.
func TestIntercalatesOneByOne(t *testing.T) {
	for _, s := range slices.Concat(small(), great()) {
		got, e := latin.Intercalates(s)
		wantNumber(t, name("Intercalates", s), got, e, intercalates(s))
	}
}

// TestIntercalatesOfTheBooks has L3: those of a group are as many as it has elements that are their own inverse, but the unit, for each place, and each is told by four places.
func TestIntercalatesOfTheBooks(t *testing.T) {
	for i, want := range []int{0, 1, 0, 4, 0, 9, 0, 16} {
		got, e := latin.Intercalates(cyclic(i + 1))
		wantNumber(t, fmt.Sprint("Intercalates of Cyclic of ", i+1), got, e, want)
	}
	for i, want := range []int{0, 1, 12, 112} {
		got, e := latin.Intercalates(bitwise(1 << i))
		wantNumber(t, fmt.Sprint("Intercalates of bits, ", i), got, e, want)
	}
	got, e := latin.Intercalates(sixth())
	wantNumber(t, "Intercalates of the permutations of 3 points", got, e, 27)
}
