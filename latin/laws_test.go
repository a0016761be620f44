package latin_test

import (
	"fmt"
	"slices"
	"testing"

	"parterre/api"
	"parterre/latin"
)

// TestBose has L5: Made of two unlike elements are Orthogonal, of one element not.
func TestBose(t *testing.T) {
	for _, f := range smallFields() {
		for a := 1; a < orderOf(f); a++ {
			one, e1 := latin.Made(f, a)
			if e1 != api.OK || latin.Check(one) != api.OK {
				t.Fatalf("Made of %v, %d: got %v, error %d", f, a, one, e1)
			}
			for b := 1; b < orderOf(f); b++ {
				other, _ := latin.Made(f, b)
				got, e := latin.Orthogonal(one, other)
				if got != (a != b) || e != api.OK {
					t.Errorf("Made of %v, %d and %d: Orthogonal is %v, error %d", f, a, b, got, e)
				}
			}
		}
	}
}

// TestEuler has L5: Cyclic has Transversals just if n is odd.
func TestEuler(t *testing.T) {
	for n := 1; n <= 7; n++ {
		s, _ := latin.Cyclic(n)
		got, e := latin.Transversals(s)
		if (got > 0) != (n%2 == 1) || e != api.OK {
			t.Errorf("Transversals of Cyclic of %d: got %d, error %d", n, got, e)
		}
	}
}

// TestConjugatesAreAlike has L5: they are Latin squares, with as many Transversals and Intercalates.
func TestConjugatesAreAlike(t *testing.T) {
	for _, s := range slices.Concat(small(), great()) {
		crossed, e1 := latin.Transversals(s)
		exchanged, _ := latin.Intercalates(s)
		for k := range 6 {
			c, e := latin.Conjugate(s, k)
			if e != api.OK || latin.Check(c) != api.OK {
				t.Fatalf("%s by %d: got %v, error %d", name("Conjugate", s), k, c, e)
			}
			if got, e := latin.Transversals(c); got != crossed || e != e1 {
				t.Errorf("%s by %d: %d Transversals, not %d; error %d", name("Conjugate", s), k, got, crossed, e)
			}
			got, e := latin.Intercalates(c)
			wantNumber(t, name("Intercalates", c), got, e, exchanged)
		}
	}
}

// TestConjugatesLeadBack: one order, and then the one that leads back, is none at all; any two in turn are one of the six.
func TestConjugatesLeadBack(t *testing.T) {
	for _, s := range slices.Concat(all(3), all(4)[:60], great()) {
		for k, back := range []int{0, 1, 2, 4, 3, 5} {
			c, _ := latin.Conjugate(s, k)
			got, e := latin.Conjugate(c, back)
			wantSquare(t, name("Conjugate", s)+fmt.Sprint(" by ", k, " and ", back), got, e, s)
		}
		turned, _ := latin.Conjugate(s, 3)
		twice, e := latin.Conjugate(turned, 3)
		other, _ := latin.Conjugate(s, 4)
		wantSquare(t, name("Conjugate", s)+" by 3 and 3", twice, e, other)
	}
}

// TestOrthogonalBothWays: neither square is ahead of the other one, and numbers may be exchanged in one of them.
func TestOrthogonalBothWays(t *testing.T) {
	squares := append(great(), shuffled(cyclic(4), 1), bitwise(4))
	for _, f := range smallFields() {
		s, _ := latin.Made(f, orderOf(f)-1)
		squares = append(squares, s)
	}
	for _, a := range squares {
		for _, b := range squares {
			one, e := latin.Orthogonal(a, b)
			other, e1 := latin.Orthogonal(b, a)
			if one != other || e != e1 {
				t.Errorf("%s with %v: got %v and %v", name("Orthogonal", a), b, one, other)
			}
			numbers := mixed(b.Side, 17)
			renamed := table(b.Side, func(i, j int) int { return numbers[b.Cells[i*b.Side+j]] })
			if other, e1 = latin.Orthogonal(a, renamed); one != other || e != e1 {
				t.Errorf("%s with %v: got %v and %v", name("Orthogonal", a), renamed, one, other)
			}
		}
	}
}

// TestTransversalsOfPartners: a square has an orthogonal one only if it has at least as many transversals as rows.
func TestTransversalsOfPartners(t *testing.T) {
	for _, f := range smallFields() {
		s, _ := latin.Made(f, 1)
		got, e := latin.Transversals(s)
		if s.Side > 2 && s.Side < 8 && (got < s.Side || e != api.OK) {
			t.Errorf("%s: got %d, error %d", name("Transversals", s), got, e)
		}
	}
}

// TestExtendLeadsOn: what is made of some rows is made of any more rows of it, too.
func TestExtendLeadsOn(t *testing.T) {
	for n := 1; n <= 8; n++ {
		for start := range 6 {
			s, e := latin.Extend(n, [][]int{mixed(n, start)})
			if e != api.OK || latin.Check(s) != api.OK {
				t.Fatalf("Extend of %v: got %v, error %d", mixed(n, start), s, e)
			}
			for rows := 1; rows <= n; rows++ {
				got, e := latin.Extend(n, rowsOf(s)[:rows])
				wantSquare(t, fmt.Sprint("Extend of ", rowsOf(s)[:rows]), got, e, s)
			}
		}
	}
}
