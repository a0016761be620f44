package array_test

import (
	"math"
	"slices"
	"testing"

	"parterre/api"
	"parterre/array"
	"parterre/latin"
)

func wantSquares(t *testing.T, list ...api.Square) [][]int {
	t.Helper()
	got, e := array.Squares(list)
	wantRows(t, name("Squares", list), got, e, squaresOf(list), api.OK)
	return got
}

// TestSquaresOfSmall has A3: each Latin square of a side of up to 4, and each two, and each three, of a side of up to 3.
func TestSquaresOfSmall(t *testing.T) {
	for side := 1; side <= 4; side++ {
		all := latins(side)
		for _, a := range all {
			wantSquares(t, a)
			if side == 4 {
				continue
			}
			for _, b := range all {
				wantSquares(t, a, b)
				for _, c := range all {
					wantSquares(t, a, b, c)
				}
			}
		}
	}
}

// strewnSquares are Latin squares of one side, some of them orthogonal where the side is a prime.
func strewnSquares(side, many int, next func(int) int) []api.Square {
	order := func(n int) []int { return strewnOrder(n, next) }
	rows, columns := order(side), order(side)
	var out []api.Square
	for range many {
		step := 1
		if slices.Contains([]int{3, 5, 7}, side) {
			step += next(side - 1)
		}
		if next(4) == 0 {
			rows = order(side)
		}
		out = append(out, mixed(cyclic(side, step), rows, columns, order(side)))
	}
	return out
}

// TestSquaresOfAllSizes has A3: each side with each number of squares.
func TestSquaresOfAllSizes(t *testing.T) {
	next := numbers(3)
	for side := 1; side <= 8; side++ {
		for many := 1; many <= 6; many++ {
			for range 20 {
				got := wantSquares(t, strewnSquares(side, many, next)...)
				if len(got) != side*side || len(got[0]) != many+2 {
					t.Errorf("%d squares of side %d: %d runs of %d", many, side, len(got), len(got[0]))
				}
			}
		}
	}
}

// TestSquaresByHand has A3: row, column, and what each square has there.
func TestSquaresByHand(t *testing.T) {
	got, e := array.Squares([]api.Square{square(1, 0)})
	wantRows(t, "Squares of side 1", got, e, texts("000"), api.OK)
	got, e = array.Squares([]api.Square{square(2, 1, 0, 0, 1)})
	wantRows(t, "Squares of side 2", got, e, texts("001", "010", "100", "111"), api.OK)
	got, e = array.Squares([]api.Square{cyclic(3, 1), cyclic(3, 2)})
	wantRows(t, "Squares of side 3", got, e, texts("0000", "0112", "0221", "1011", "1120", "1202", "2022", "2101", "2210"), api.OK)
}

// wrongSquares have each error of chapter 6.
func wrongSquares() []api.Square {
	return []api.Square{
		{}, square(0, 0), square(-1, 0), square(9), cyclic(9, 1), square(math.MaxInt), square(math.MinInt, 0), square(1<<32, 0),
		square(1), square(1, 0, 0), square(3, 0, 1, 2, 1, 2, 0, 2, 0), square(8, make([]int, 63)...), square(3, 0, 1, 2, 9),
		square(1, 1), square(1, -1), square(2, 0, 1, 1, 2), square(2, 0, 0, 1, 2), square(2, math.MaxInt, 0, 0, math.MinInt),
		square(2, 0, 1, 0, 1), square(2, 0, 0, 1, 1), square(3, 0, 1, 2, 1, 2, 0, 2, 1, 0), square(8, make([]int, 64)...),
	}
}

// TestSquaresOfWrong has A3's errors: latin's Check of each, one behind the other, ahead of sides that are unlike.
func TestSquaresOfWrong(t *testing.T) {
	found := map[api.Errno]int{}
	for i, bad := range wrongSquares() {
		want := latin.Check(bad)
		found[want]++
		for many := range 6 {
			for _, sides := range [][2]int{{3, 3}, {3, 4}, {8, 1}} {
				list := slices.Repeat([]api.Square{cyclic(sides[0], 1), cyclic(sides[1], 1)}, 3)
				list[many] = bad
				got, e := array.Squares(list)
				wantRows(t, name("Squares", list), got, e, nil, want)
				got, e = array.Squares(list[:many+1])
				wantRows(t, name("Squares", list[:many+1]), got, e, nil, want)
			}
		}
		for _, next := range wrongSquares()[i:] {
			got, e := array.Squares([]api.Square{bad, next})
			wantRows(t, name("Squares", bad, next), got, e, nil, want)
			got, e = array.Squares([]api.Square{cyclic(3, 1), next, bad})
			wantRows(t, name("Squares", next, bad), got, e, nil, latin.Check(next))
		}
	}
	if found[api.OK] > 0 || found[api.ErrRange] == 0 || found[api.ErrShape] == 0 || found[api.ErrTwice] == 0 {
		t.Errorf("the squares have not each error: %v", found)
	}
}

// TestSquaresOfMany has A3: none, or more than 6, is told ahead of all else.
func TestSquaresOfMany(t *testing.T) {
	for _, list := range [][]api.Square{
		nil, {}, slices.Repeat([]api.Square{cyclic(3, 1)}, 7), slices.Repeat([]api.Square{cyclic(8, 1)}, 1000), make([]api.Square, 7),
		append(slices.Repeat([]api.Square{cyclic(3, 1)}, 6), cyclic(4, 1)), append(slices.Repeat([]api.Square{cyclic(3, 1)}, 6), square(2, 0, 0, 0, 0)),
		append([]api.Square{square(1, 1)}, slices.Repeat([]api.Square{cyclic(3, 1)}, 6)...),
	} {
		got, e := array.Squares(list)
		wantRows(t, name("Squares", len(list)), got, e, nil, api.ErrFull)
	}
}

// TestSquaresOfUnlike has A3: sides that are unlike, in each place.
func TestSquaresOfUnlike(t *testing.T) {
	for one := 1; one <= 8; one++ {
		for other := 1; other <= 8; other++ {
			if one == other {
				continue
			}
			for many := 2; many <= 6; many++ {
				for place := range many {
					list := slices.Repeat([]api.Square{cyclic(one, 1)}, many)
					list[place] = cyclic(other, 1)
					got, e := array.Squares(list)
					wantRows(t, name("Squares", one, other, many, place), got, e, nil, api.ErrShape)
				}
			}
		}
	}
}
