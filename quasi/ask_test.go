package quasi_test

import (
	"fmt"
	"slices"
	"testing"

	"parterre/api"
	"parterre/latin"
	"parterre/quasi"
)

// TestUnitOneByOne has Q2: all quasigroups of up to 4 elements, and many greater ones.
func TestUnitOneByOne(t *testing.T) {
	told := map[int]int{}
	for _, s := range slices.Concat(small(), great(), loops(5)) {
		got, e := quasi.Unit(s)
		if want := units(s); len(want) == 1 {
			wantNumber(t, name("Unit", s), got, e, want[0])
			told[s.Side]++
		} else {
			wantNoNumber(t, name("Unit", s), got, e, api.ErrNone)
		}
	}
	if told[1] != 1 || told[2] != 2 || told[3] != 3 || told[4] != 16 || told[5] < 56 || told[8] == 0 {
		t.Errorf("so many have a unit: %v", told)
	}
}

// TestUnitOfEachElement has Q2: any element may be it, the last one, too.
func TestUnitOfEachElement(t *testing.T) {
	for n := 1; n <= 8; n++ {
		for x := range n {
			s := table(n, func(a, b int) int { return (a + b + n - x) % n })
			got, e := quasi.Unit(s)
			wantNumber(t, name("Unit", s), got, e, x)
		}
	}
}

// TestUnitOfOneSide has Q2's ErrNone: a unit on one side is none.
func TestUnitOfOneSide(t *testing.T) {
	for n := 3; n <= 8; n++ {
		for _, s := range []api.Square{minus(n), minusFrom(n), renamed(minus(n), mixed(n, n)), renamed(minusFrom(n), mixed(n, n))} {
			got, e := quasi.Unit(s)
			wantNoNumber(t, name("Unit", s), got, e, api.ErrNone)
		}
	}
}

// TestTruthsOneByOne has Q2: all quasigroups of up to 4 elements, and many greater ones.
func TestTruthsOneByOne(t *testing.T) {
	for _, s := range slices.Concat(small(), great(), loops(5)) {
		got, e := quasi.Commutes(s)
		wantTruth(t, name("Commutes", s), got, e, commutes(s))
		got, e = quasi.Associates(s)
		wantTruth(t, name("Associates", s), got, e, associates(s))
		got, e = quasi.Idempotent(s)
		wantTruth(t, name("Idempotent", s), got, e, idempotent(s))
	}
}

// TestTruthsOfTheBooks has Q2: what is known of these.
func TestTruthsOfTheBooks(t *testing.T) {
	for _, x := range []struct {
		s                                api.Square
		commutes, associates, idempotent bool
	}{
		{cyclic(1), true, true, true}, {cyclic(2), true, true, false}, {cyclic(8), true, true, false}, {bitwise(4), true, true, false}, {bitwise(8), true, true, false},
		{sixth(), false, true, false}, {turns(), false, true, false}, {quaternions(), false, true, false},
		{minus(3), false, false, false}, {minus(8), false, false, false}, {minusFrom(5), false, false, false},
		{rounds(4), true, true, false}, {rounds(6), false, false, false}, {rounds(8), false, false, false}, {over(rounds(6)), false, false, false}, {over(rounds(8)), false, false, false},
		{middle(3), true, false, true}, {middle(7), true, false, true}, {fano(), true, false, true},
		{mirror(5), false, false, true}, {mirror(7), false, false, true}, {affine(), false, false, true},
	} {
		got, e := quasi.Commutes(x.s)
		wantTruth(t, name("Commutes", x.s), got, e, x.commutes)
		got, e = quasi.Associates(x.s)
		wantTruth(t, name("Associates", x.s), got, e, x.associates)
		got, e = quasi.Idempotent(x.s)
		wantTruth(t, name("Idempotent", x.s), got, e, x.idempotent)
	}
}

// TestHowManyAreSo has Q2: of all squares of up to 4 rows so many are what the books say, and of 5 elements with the unit 0.
func TestHowManyAreSo(t *testing.T) {
	count := func(squares []api.Square, ask func(api.Square) (bool, api.Errno)) int {
		out := 0
		for _, s := range squares {
			if yes, e := ask(s); yes && e == api.OK {
				out++
			}
		}
		return out
	}
	for n, want := range [][3]int{1: {1, 1, 1}, 2: {2, 2, 0}, 3: {6, 3, 1}, 4: {96, 16, 2}} {
		if n == 0 {
			continue
		}
		squares := all(n)
		if got := [3]int{count(squares, quasi.Commutes), count(squares, quasi.Associates), count(squares, quasi.Idempotent)}; got != want {
			t.Errorf("of %d elements: got %v, want %v", n, got, want)
		}
	}
	if squares := loops(5); len(squares) != 56 || count(squares, quasi.Commutes) != 6 || count(squares, quasi.Associates) != 6 {
		t.Errorf("of 5 elements with a unit: %d, of which %d commute and %d associate", len(squares), count(squares, quasi.Commutes), count(squares, quasi.Associates))
	}
}

// TestIdempotentOfAllButOne has Q2: one element that is not its own square is enough, whichever.
func TestIdempotentOfAllButOne(t *testing.T) {
	told := 0
	for _, s := range append(all(4), loops(5)...) {
		for x := range s.Side {
			rest := slices.DeleteFunc(stay(s.Side), func(y int) bool { return at(s, y, y) == y })
			if !slices.Equal(rest, []int{x}) {
				continue
			}
			told++
			got, e := quasi.Idempotent(s)
			wantTruth(t, name("Idempotent", s), got, e, false)
		}
	}
	if told == 0 {
		t.Errorf("no square is so")
	}
}

// TestLeftAndRightOneByOne has Q2: of each two elements.
func TestLeftAndRightOneByOne(t *testing.T) {
	for _, s := range slices.Concat(small(), great()) {
		for x := range s.Side {
			for y := range s.Side {
				z := at(s, x, y)
				got, e := quasi.Left(s, x, z)
				wantNumber(t, name("Left", s)+fmt.Sprint(", ", x, z), got, e, y)
				got, e = quasi.Right(s, y, z)
				wantNumber(t, name("Right", s)+fmt.Sprint(", ", y, z), got, e, x)
			}
		}
	}
}

// TestLeftAndRightAreConjugates has Q2: what is told stands in the square whose columns, or rows, are taken as numbers.
func TestLeftAndRightAreConjugates(t *testing.T) {
	for _, s := range slices.Concat(all(3), great()) {
		left, _ := latin.Conjugate(s, 1)
		right, _ := latin.Conjugate(s, 3)
		for a := range s.Side {
			for b := range s.Side {
				got, e := quasi.Left(s, a, b)
				wantNumber(t, name("Left", s)+fmt.Sprint(", ", a, b), got, e, at(left, a, b))
				got, e = quasi.Right(s, a, b)
				wantNumber(t, name("Right", s)+fmt.Sprint(", ", a, b), got, e, at(right, a, b))
			}
		}
	}
}
