package latin_test

import (
	"fmt"
	"math"
	"slices"
	"testing"

	"parterre/api"
	"parterre/latin"
)

// TestExtendOneByOne has L4: of all squares of up to 4 rows, in order, the first that begins so, whatever the beginning.
func TestExtendOneByOne(t *testing.T) {
	for n := 1; n <= 4; n++ {
		squares := all(n)
		if !slices.IsSortedFunc(squares, func(a, b api.Square) int { return slices.Compare(a.Cells, b.Cells) }) {
			t.Fatalf("the squares of %d rows are not in order", n)
		}
		for rows := range n + 1 {
			var ahead []int
			for i, s := range squares {
				begun := s.Cells[:rows*n]
				if i > 0 && slices.Equal(begun, ahead) {
					continue
				}
				ahead = begun
				got, e := latin.Extend(n, rowsOf(s)[:rows])
				wantSquare(t, fmt.Sprint("Extend of ", n, begun), got, e, s)
			}
		}
	}
}

// TestExtendOfGreat has L4: of 5 to 8 rows, from each number of rows on, held against what goes cell by cell.
func TestExtendOfGreat(t *testing.T) {
	for _, s := range great() {
		for rows := range s.Side + 1 {
			begun := rowsOf(s)[:rows]
			got, e := latin.Extend(s.Side, begun)
			wantSquare(t, fmt.Sprint("Extend of ", s.Side, begun), got, e, first(s.Side, begun))
		}
	}
}

// TestExtendOfOneRow has L4: each row of up to 6 numbers goes on; and a square comes, Latin, that begins so.
func TestExtendOfOneRow(t *testing.T) {
	for n := 1; n <= 6; n++ {
		for _, row := range permutations(n) {
			got, e := latin.Extend(n, [][]int{row})
			if e != api.OK || !isLatin(got) || !slices.Equal(got.Cells[:n], row) {
				t.Errorf("Extend of %d, %v: got %v, error %d", n, row, got, e)
			}
		}
	}
}

// TestExtendOfNoRows has L4: nil and empty are the same (P4); of a power of 2 the first one has each element its own inverse.
func TestExtendOfNoRows(t *testing.T) {
	for n := 1; n <= 8; n++ {
		got, e := latin.Extend(n, nil)
		wantSquare(t, fmt.Sprint("Extend of ", n), got, e, first(n, nil))
		got, e = latin.Extend(n, [][]int{})
		wantSquare(t, fmt.Sprint("Extend of ", n), got, e, first(n, nil))
		if n&(n-1) == 0 {
			wantSquare(t, fmt.Sprint("Extend of ", n), got, e, bitwise(n))
		}
	}
}

// TestExtendTakesNumbersBack has L4: the first numbers that fit may leave none for the last columns.
func TestExtendTakesNumbersBack(t *testing.T) {
	for _, x := range []struct {
		rows [][]int
		want []int
	}{
		{[][]int{{0, 1, 2}}, []int{0, 1, 2, 1, 2, 0, 2, 0, 1}},
		{[][]int{{1, 2, 0}, {2, 0, 1}}, []int{1, 2, 0, 2, 0, 1, 0, 1, 2}},
		{[][]int{{2, 1, 0}}, []int{2, 1, 0, 0, 2, 1, 1, 0, 2}},
		{[][]int{{0, 1, 2, 3, 4}}, []int{0, 1, 2, 3, 4, 1, 0, 3, 4, 2, 2, 3, 4, 0, 1, 3, 4, 1, 2, 0, 4, 2, 0, 1, 3}},
	} {
		got, e := latin.Extend(len(x.rows[0]), x.rows)
		wantSquare(t, fmt.Sprint("Extend of ", x.rows), got, e, api.Square{Side: len(x.rows[0]), Cells: x.want})
	}
}

// TestNoExtend has L4's errors, where several are wrong the one that is said first.
func TestNoExtend(t *testing.T) {
	for _, x := range []struct {
		n    int
		rows [][]int
		want api.Errno
	}{
		{0, nil, api.ErrRange}, {-1, nil, api.ErrRange}, {9, nil, api.ErrRange}, {9, [][]int{stay(9)}, api.ErrRange}, {math.MinInt, nil, api.ErrRange}, {math.MaxInt, nil, api.ErrRange}, {1<<32 + 1, [][]int{{0}}, api.ErrRange},
		{0, [][]int{{}}, api.ErrRange}, {0, [][]int{{0}}, api.ErrRange}, {-1, [][]int{{}, {}}, api.ErrRange},
		{1, [][]int{{0}, {0}}, api.ErrFull}, {2, [][]int{{0, 1}, {1, 0}, {0, 1}}, api.ErrFull}, {2, [][]int{{}, {2}, nil}, api.ErrFull}, {1, [][]int{{1}, {}}, api.ErrFull}, {8, make([][]int, 9), api.ErrFull}, {1, make([][]int, 100), api.ErrFull},
		{1, [][]int{{}}, api.ErrShape}, {1, [][]int{nil}, api.ErrShape}, {2, [][]int{{0}}, api.ErrShape}, {2, [][]int{{0, 1, 0}}, api.ErrShape}, {2, [][]int{{9}}, api.ErrShape}, {2, [][]int{{0, 1, 2}}, api.ErrShape}, {8, make([][]int, 8), api.ErrShape},
		{3, [][]int{{0, 1, 2}, {0, 1}}, api.ErrShape}, {3, [][]int{{0, 0, 0}, {0, 1}}, api.ErrShape}, {3, [][]int{{0, 1, 2}, {0, 1, 2}, nil}, api.ErrShape}, {3, [][]int{{0, 1}, {0, 1, 3}}, api.ErrShape},
		{1, [][]int{{1}}, api.ErrRange}, {1, [][]int{{-1}}, api.ErrRange}, {3, [][]int{{0, 1, 3}}, api.ErrRange}, {3, [][]int{{-1, 1, 2}}, api.ErrRange}, {3, [][]int{{0, 0, 3}}, api.ErrRange}, {3, [][]int{{math.MaxInt, 1, 2}}, api.ErrRange}, {3, [][]int{{0, math.MinInt, 2}}, api.ErrRange},
		{3, [][]int{{0, 1, 3}, {0, 1}}, api.ErrRange}, {3, [][]int{{0, 1, 2}, {0, 1, 2}, {0, 0, 3}}, api.ErrRange}, {3, [][]int{{0, 0, 0}, {1, 2, 64}}, api.ErrRange},
		{2, [][]int{{0, 0}}, api.ErrTwice}, {2, [][]int{{1, 1}}, api.ErrTwice}, {2, [][]int{{0, 1}, {0, 1}}, api.ErrTwice}, {3, [][]int{{0, 1, 2}, {1, 2, 2}}, api.ErrTwice}, {3, [][]int{{0, 1, 2}, {1, 2, 0}, {2, 1, 0}}, api.ErrTwice}, {3, [][]int{{0, 1, 2}, {2, 1, 0}}, api.ErrTwice}, {8, [][]int{stay(8), stay(8)}, api.ErrTwice}, {8, [][]int{make([]int, 8)}, api.ErrTwice},
	} {
		got, e := latin.Extend(x.n, x.rows)
		wantNoSquare(t, fmt.Sprint("Extend of ", x.n, x.rows), got, e, x.want)
	}
}

// TestExtendOfOneWrongCell has L4: any number that is made another one is there twice, since its row has all.
func TestExtendOfOneWrongCell(t *testing.T) {
	for _, s := range slices.Concat(all(3), great()) {
		for rows := 1; rows <= s.Side; rows++ {
			for k := range rows * s.Side {
				begun := rowsOf(s)[:rows]
				i, j := k/s.Side, k%s.Side
				begun[i][j] = (begun[i][j] + 1) % s.Side
				got, e := latin.Extend(s.Side, begun)
				wantNoSquare(t, fmt.Sprint("Extend of ", begun), got, e, api.ErrTwice)
			}
		}
	}
}
