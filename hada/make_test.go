package hada_test

import (
	"math"
	"testing"

	"parterre/api"
	"parterre/hada"
)

// TestSylvester has H2: by counting digits, and by his own way, which doubles.
func TestSylvester(t *testing.T) {
	for k := range 5 {
		got, e := hada.Sylvester(k)
		wantSquare(t, name("Sylvester", k), got, e, doubled(k), api.OK)
		wantSquare(t, name("Sylvester", k), got, e, table(1<<k, func(i, j int) int {
			out := 1
			for place := range k {
				if i>>place%2 == 1 && j>>place%2 == 1 {
					out = -out
				}
			}
			return out
		}), api.OK)
	}
	for _, k := range []int{-1, -2, -64, 5, 6, 24, 62, 63, 64, 1 << 32, 1<<32 + 1, math.MinInt, math.MinInt + 1, math.MaxInt} {
		got, e := hada.Sylvester(k)
		wantSquare(t, name("Sylvester", k), got, e, api.Square{}, api.ErrRange)
	}
}

// TestPaley has H2: each p that may be.
func TestPaley(t *testing.T) {
	made := 0
	for p := 1; p <= 23; p++ {
		got, e := hada.Paley(p)
		if isPrime(p) && p%4 == 3 {
			wantSquare(t, name("Paley", p), got, e, paley(p), api.OK)
			made++
		} else {
			wantSquare(t, name("Paley", p), got, e, api.Square{}, api.ErrNone)
		}
	}
	if made != 5 {
		t.Errorf("%d are made, want those of 3, 7, 11, 19, 23", made)
	}
	for _, p := range []int{0, -1, -3, -23, 24, 25, 27, 31, 43, 47, 59, 60, 61, 64, 1<<32 + 3, math.MinInt, math.MinInt + 3, math.MaxInt} {
		got, e := hada.Paley(p)
		wantSquare(t, name("Paley", p), got, e, api.Square{}, api.ErrRange)
	}
}

// TestPaleyByHand has H2: 1 is the only square modulo 3; 1, 2 and 4 are those modulo 7.
func TestPaleyByHand(t *testing.T) {
	got, e := hada.Paley(3)
	wantSquare(t, "Paley of 3", got, e, square([][]int{
		{1, 1, 1, 1},
		{-1, 1, 1, -1},
		{-1, -1, 1, 1},
		{-1, 1, -1, 1},
	}), api.OK)
	got, e = hada.Paley(7)
	wantSquare(t, "Paley of 7", got, e, square([][]int{
		{1, 1, 1, 1, 1, 1, 1, 1},
		{-1, 1, 1, 1, -1, 1, -1, -1},
		{-1, -1, 1, 1, 1, -1, 1, -1},
		{-1, -1, -1, 1, 1, 1, -1, 1},
		{-1, 1, -1, -1, 1, 1, 1, -1},
		{-1, -1, 1, -1, -1, 1, 1, 1},
		{-1, 1, -1, 1, -1, -1, 1, 1},
		{-1, 1, 1, -1, 1, -1, -1, 1},
	}), api.OK)
}

// TestProduct has H3: each two of some matrices, either way round.
func TestProduct(t *testing.T) {
	all := some()
	for _, a := range all {
		for _, b := range all {
			got, e := hada.Product(a, b)
			if a.Side*b.Side > 24 {
				wantSquare(t, name("Product", a, b), got, e, api.Square{}, api.ErrFull)
			} else {
				wantSquare(t, name("Product", a, b), got, e, product(a, b), api.OK)
			}
		}
	}
}

// TestProductByHand has H3: the first one's cells tell which sign the second one has.
func TestProductByHand(t *testing.T) {
	got, e := hada.Product(cells(2, 1, -1, 1, 1), cells(2, 1, 1, -1, 1))
	wantSquare(t, "Product", got, e, square([][]int{
		{1, 1, -1, -1},
		{-1, 1, 1, -1},
		{1, 1, 1, 1},
		{-1, 1, -1, 1},
	}), api.OK)
	for _, s := range some() {
		got, e = hada.Product(cells(1, -1), s)
		wantSquare(t, name("Product", -1, s), got, e, cells(s.Side, times(-1, s.Cells)...), api.OK)
		got, e = hada.Product(s, cells(1, 1))
		wantSquare(t, name("Product", s, 1), got, e, s, api.OK)
	}
}

// TestEven has H3: all small ones, and some great ones.
func TestEven(t *testing.T) {
	for _, s := range append(smallOnes(), greatOnes()...) {
		got, e := hada.Even(s)
		wantSquare(t, name("Even", s), got, e, even(s), api.OK)
		for i := range s.Side {
			if got.Cells[i] != 1 || got.Cells[i*s.Side] != 1 {
				t.Errorf("%s: not 1 in the first row or column: %v", name("Even", s), got)
			}
		}
	}
	got, e := hada.Even(cells(2, -1, 1, 1, 1))
	wantSquare(t, "Even by hand", got, e, cells(2, 1, 1, 1, -1), api.OK)
	got, e = hada.Even(cells(1, -1))
	wantSquare(t, "Even by hand", got, e, cells(1, 1), api.OK)
}

// TestExcess has H3: all small ones, and some great ones.
func TestExcess(t *testing.T) {
	for _, s := range append(smallOnes(), greatOnes()...) {
		got, e := hada.Excess(s)
		wantNumber(t, name("Excess", s), got, e, excess(s), api.OK)
	}
	for k := range 5 {
		got, e := hada.Excess(doubled(k))
		wantNumber(t, name("Excess of Sylvester", k), got, e, 1<<k, api.OK)
	}
	got, e := hada.Excess(cells(1, -1))
	wantNumber(t, "Excess of -1", got, e, -1, api.OK)
}

// TestBlocks has H3: all small ones, and some great ones; those of a side of 1 and 2 have none.
func TestBlocks(t *testing.T) {
	for _, s := range append(smallOnes(), greatOnes()...) {
		got, e := hada.Blocks(s)
		if s.Side < 4 {
			wantDesign(t, name("Blocks", s), got, e, api.Design{}, api.ErrShape)
		} else {
			wantDesign(t, name("Blocks", s), got, e, blocks(s), api.OK)
		}
	}
}

// TestBlocksByHand has H3: rows and columns are made even first, and the first ones are left out.
func TestBlocksByHand(t *testing.T) {
	got, e := hada.Blocks(doubled(3))
	wantDesign(t, "Blocks of Sylvester's", got, e, api.Design{Points: 7, Blocks: [][]int{
		{1, 3, 5}, {0, 3, 4}, {2, 3, 6}, {0, 1, 2}, {1, 4, 6}, {0, 5, 6}, {2, 4, 5},
	}}, api.OK)
	got, e = hada.Blocks(paley(3))
	wantDesign(t, "Blocks of Paley's", got, e, api.Design{Points: 3, Blocks: [][]int{{2}, {0}, {1}}}, api.OK)
}
