package hada_test

import (
	"slices"
	"testing"

	"parterre/api"
	"parterre/design"
	"parterre/hada"
)

// made are what Sylvester, Paley and Product make.
func made(t *testing.T) []api.Square {
	var out []api.Square
	keep := func(s api.Square, e api.Errno) {
		if e != api.OK {
			t.Fatalf("nothing is made: error %d", e)
		}
		out = append(out, s)
	}
	for k := range 5 {
		keep(hada.Sylvester(k))
	}
	for _, p := range []int{3, 7, 11, 19, 23} {
		keep(hada.Paley(p))
	}
	for _, a := range slices.Clone(out) {
		for _, b := range slices.Clone(out) {
			if a.Side*b.Side <= 24 {
				keep(hada.Product(a, b))
			}
		}
	}
	return out
}

// TestMadeAreHadamard has H4's last.
func TestMadeAreHadamard(t *testing.T) {
	sides := map[int]int{}
	for _, s := range made(t) {
		wantError(t, name("Check", s), hada.Check(s), api.OK)
		wantError(t, name("what the words say", s), wrongWith(s), api.OK)
		sides[s.Side]++
	}
	for _, side := range []int{1, 2, 4, 8, 12, 16, 20, 24} {
		if sides[side] == 0 {
			t.Errorf("none of side %d is made", side)
		}
	}
}

// TestLawOfSides has H4: no matrix of another side is told to be one, be it a part of one or strewn.
func TestLawOfSides(t *testing.T) {
	for side := 3; side <= 24; side++ {
		if side%4 == 0 {
			continue
		}
		next := numbers(side)
		for range 50 {
			s := cells(side, strewnSigns(side*side, next)...)
			wantError(t, name("Check", s), hada.Check(s), api.ErrNone)
		}
		rows := rowsOf(paley(23))
		s := table(side, func(i, j int) int { return rows[i][j] })
		wantError(t, name("Check", s), hada.Check(s), api.ErrNone)
	}
}

// TestLawOfExcess has H4 (Best): what it is at most, and that this is reached; and that of a product it is the product.
func TestLawOfExcess(t *testing.T) {
	reached, others := map[int]bool{}, some()
	for _, s := range slices.Concat(made(t), others, []api.Square{regular(), product(regular(), regular())}) {
		x, e := hada.Excess(s)
		if n := s.Side; e != api.OK || x*x > n*n*n {
			t.Errorf("Excess of %v: got %d, error %d", s, x, e)
		} else if x*x == n*n*n {
			reached[n] = true
		}
		for _, other := range others {
			both, e := hada.Product(s, other)
			if e == api.ErrFull {
				continue
			}
			y, _ := hada.Excess(other)
			got, e := hada.Excess(both)
			wantNumber(t, name("Excess of Product", s, other), got, e, x*y, api.OK)
		}
	}
	for _, n := range []int{1, 4, 16} {
		if !reached[n] {
			t.Errorf("side %d: none has all that it may have", n)
		}
	}
}

// regular has in each row as many that are 1 as in each other.
func regular() api.Square {
	return table(4, func(i, j int) int {
		if i == j {
			return -1
		}
		return 1
	})
}

// TestLawOfBlocks has H4: of n = 4 t what level they are of; and each two meet in as many points (Ryser, chapter 8).
func TestLawOfBlocks(t *testing.T) {
	for _, s := range append(made(t), some()...) {
		if s.Side < 4 {
			continue
		}
		d, e := hada.Blocks(s)
		size, lambda, wrong := design.Level(d, 2)
		if quarter := s.Side / 4; e != api.OK || wrong != api.OK || size != 2*quarter-1 || lambda != quarter-1 {
			t.Errorf("Blocks of %v: got %v, of the level %d, %d; errors %d, %d", s, d, size, lambda, e, wrong)
		}
		if d.Points != s.Side-1 || len(d.Blocks) != s.Side-1 {
			t.Errorf("Blocks of %v: got %d blocks of %d points", s, len(d.Blocks), d.Points)
		}
		if meets, e := design.Meets(d); e != api.OK || !slices.Equal(meets, []int{lambda}) {
			t.Errorf("Blocks of %v: got %v, which meet in %v", s, d, meets)
		}
	}
}

// TestLawOfEven follows from H3: what is even stays, and of some matrix it tells no more than of its even one; and the signs of rows and columns are lost.
func TestLawOfEven(t *testing.T) {
	for n, s := range some() {
		one, _ := hada.Even(s)
		wantError(t, name("Check of Even", s), hada.Check(one), api.OK)
		again, e := hada.Even(one)
		wantSquare(t, name("Even of Even", s), again, e, one, api.OK)
		next := numbers(n)
		rows, across, down := rowsOf(s), strewnSigns(s.Side, next), strewnSigns(s.Side, next)
		other, e := hada.Even(table(s.Side, func(i, j int) int { return rows[i][j] * across[i] * down[j] }))
		wantSquare(t, name("Even with other signs", s), other, e, one, api.OK)
		a, e := hada.Blocks(s)
		b, wrong := hada.Blocks(one)
		wantDesign(t, name("Blocks of Even", s), b, wrong, a, e)
	}
}

// TestLawOfProducts follows from H3: of three it is the same which two come first; and Sylvester's are products of the one of side 2.
func TestLawOfProducts(t *testing.T) {
	multiply := func(a, b api.Square) api.Square {
		s, e := hada.Product(a, b)
		wantError(t, name("Product", a, b), e, api.OK)
		return s
	}
	two, other, twelve := cells(2, 1, -1, 1, 1), cells(2, -1, -1, 1, -1), paley(11)
	for _, list := range [][]api.Square{{two, other, regular()}, {regular(), two, other}, {other, regular(), two}, {cells(1, -1), two, twelve}, {twelve, cells(1, -1), other}} {
		one, s := multiply(multiply(list[0], list[1]), list[2]), multiply(list[0], multiply(list[1], list[2]))
		wantSquare(t, name("Product of three", list), s, api.OK, one, api.OK)
	}
	for j := range 5 {
		for k := range 5 - j {
			a, _ := hada.Sylvester(j)
			b, _ := hada.Sylvester(k)
			both, e := hada.Sylvester(j + k)
			wantSquare(t, name("Product of Sylvester's", j, k), multiply(a, b), e, both, api.OK)
		}
	}
}
