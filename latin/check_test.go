package latin_test

import (
	"math"
	"slices"
	"testing"

	"parterre/api"
	"parterre/latin"
)

// TestCheckOneByOne has L1: all squares of up to 3 rows, of all numbers.
func TestCheckOneByOne(t *testing.T) {
	for n := 1; n <= 3; n++ {
		cells := make([]int, n*n)
		good := 0
		for at := 0; at < len(cells); {
			s := api.Square{Side: n, Cells: cells}
			want := api.ErrTwice
			if isLatin(s) {
				want = api.OK
				good++
			}
			if e := latin.Check(s); e != want {
				t.Errorf("%s: got %d, want %d", name("Check", s), e, want)
			}
			for at = 0; at < len(cells); at++ {
				cells[at]++
				if cells[at] < n {
					break
				}
				cells[at] = 0
			}
		}
		if want := []int{0, 1, 2, 12}[n]; good != want {
			t.Errorf("%d rows have %d squares", n, good)
		}
	}
}

// TestCheckOfGood has L1: all squares of 4 rows, and some up to the greatest.
func TestCheckOfGood(t *testing.T) {
	for _, s := range slices.Concat(all(4), great()) {
		if !isLatin(s) {
			t.Fatalf("%s: it is none", name("help", s))
		}
		if e := latin.Check(s); e != api.OK {
			t.Errorf("%s: got %d", name("Check", s), e)
		}
	}
}

// TestCheckOfOneCell has L1: one cell that is another number is there twice, whichever cell; beyond the numbers it is none.
func TestCheckOfOneCell(t *testing.T) {
	for _, s := range slices.Concat(all(2), all(3), great()) {
		for k, x := range s.Cells {
			bad := api.Square{Side: s.Side, Cells: slices.Clone(s.Cells)}
			for y := range s.Side {
				bad.Cells[k] = y
				if e := latin.Check(bad); (e == api.OK) != (x == y) || e != api.OK && e != api.ErrTwice {
					t.Errorf("%s: got %d", name("Check", bad), e)
				}
			}
			for _, y := range []int{-1, s.Side, s.Side + 1, 64, 1 << 32, math.MinInt, math.MaxInt} {
				bad.Cells[k] = y
				if e := latin.Check(bad); e != api.ErrRange {
					t.Errorf("%s: got %d", name("Check", bad), e)
				}
			}
		}
	}
}

// TestCheckOfRowsOrColumns has L1: each number once in each row is not enough, nor once in each column.
func TestCheckOfRowsOrColumns(t *testing.T) {
	for n := 2; n <= 8; n++ {
		for _, s := range []api.Square{
			table(n, func(i, j int) int { return j }),
			table(n, func(i, j int) int { return i }),
			table(n, func(i, j int) int { return (i/2*2 + j) % n }),
			table(n, func(i, j int) int { return (i + j/2*2) % n }),
		} {
			if e := latin.Check(s); e != api.ErrTwice {
				t.Errorf("%s: got %d", name("Check", s), e)
			}
		}
	}
}

// wrong is a square, and what is wrong with it.
type wrong struct {
	s    api.Square
	want api.Errno
}

// wrongOnes has each error, where several are wrong the one that is said first.
func wrongOnes() []wrong {
	cells := func(c ...int) []int { return c }
	return []wrong{
		{api.Square{}, api.ErrRange},
		{api.Square{Side: 0, Cells: cells(0)}, api.ErrRange},
		{api.Square{Side: -1, Cells: cells(0)}, api.ErrRange},
		{api.Square{Side: -2, Cells: cells(0, 1, 1, 0)}, api.ErrRange},
		{api.Square{Side: 9}, api.ErrRange},
		{table(9, func(i, j int) int { return (i + j) % 9 }), api.ErrRange},
		{table(9, func(i, j int) int { return 9 }), api.ErrRange},
		{api.Square{Side: 1 << 32}, api.ErrRange},
		{api.Square{Side: math.MaxInt, Cells: cells(0)}, api.ErrRange},
		{api.Square{Side: math.MinInt}, api.ErrRange},
		{api.Square{Side: 1}, api.ErrShape},
		{api.Square{Side: 8}, api.ErrShape},
		{api.Square{Side: 1, Cells: cells(0, 0)}, api.ErrShape},
		{api.Square{Side: 2, Cells: cells(0, 1, 1)}, api.ErrShape},
		{api.Square{Side: 2, Cells: cells(0, 1, 1, 0, 0)}, api.ErrShape},
		{api.Square{Side: 2, Cells: cells(-1, 0, 0)}, api.ErrShape},
		{api.Square{Side: 2, Cells: cells(0, 1, 1, 0, 2)}, api.ErrShape},
		{api.Square{Side: 3, Cells: cells(0, 0, 0, 0)}, api.ErrShape},
		{api.Square{Side: 4, Cells: cyclic(2).Cells}, api.ErrShape},
		{api.Square{Side: 2, Cells: cyclic(4).Cells}, api.ErrShape},
		{api.Square{Side: 1, Cells: cells(1)}, api.ErrRange},
		{api.Square{Side: 1, Cells: cells(-1)}, api.ErrRange},
		{api.Square{Side: 2, Cells: cells(0, 1, 1, 2)}, api.ErrRange},
		{api.Square{Side: 2, Cells: cells(1, 2, 2, 1)}, api.ErrRange},
		{api.Square{Side: 2, Cells: cells(0, 0, 0, 2)}, api.ErrRange},
		{api.Square{Side: 2, Cells: cells(1, 1, 1, -1)}, api.ErrRange},
		{api.Square{Side: 2, Cells: cells(0, 1, 0, 1)}, api.ErrTwice},
		{api.Square{Side: 2, Cells: cells(0, 0, 1, 1)}, api.ErrTwice},
		{api.Square{Side: 2, Cells: make([]int, 4)}, api.ErrTwice},
		{api.Square{Side: 8, Cells: make([]int, 64)}, api.ErrTwice},
	}
}

// TestWrongSquares has L1's errors.
func TestWrongSquares(t *testing.T) {
	for _, w := range wrongOnes() {
		if e := latin.Check(w.s); e != w.want {
			t.Errorf("%s: got %d, want %d", name("Check", w.s), e, w.want)
		}
	}
}

// TestCheckFirst has L1: all that have squares say it, ahead of all else, and nothing beside it (P1).
func TestCheckFirst(t *testing.T) {
	for _, w := range wrongOnes() {
		for _, k := range []int{0, 1, 5, -1, 6, math.MinInt, math.MaxInt} {
			got, e := latin.Conjugate(w.s, k)
			wantNoSquare(t, name("Conjugate", w.s), got, e, w.want)
		}
		if got, e := latin.Transversals(w.s); got != 0 || e != w.want {
			t.Errorf("%s: got %d, error %d, want %d", name("Transversals", w.s), got, e, w.want)
		}
		if got, e := latin.Intercalates(w.s); got != 0 || e != w.want {
			t.Errorf("%s: got %d, error %d, want %d", name("Intercalates", w.s), got, e, w.want)
		}
		for _, n := range []int{1, 2, 3, 8} {
			if got, e := latin.Orthogonal(cyclic(n), w.s); got || e != w.want {
				t.Errorf("%s: got %v, error %d, want %d", name("Orthogonal with", w.s), got, e, w.want)
			}
		}
		for _, other := range append(wrongOnes(), wrong{s: cyclic(1)}, wrong{s: cyclic(2)}, wrong{s: cyclic(3)}) {
			if got, e := latin.Orthogonal(w.s, other.s); got || e != w.want {
				t.Errorf("%s with %v: got %v, error %d, want %d", name("Orthogonal", w.s), other.s, got, e, w.want)
			}
		}
	}
}
