package hada_test

import (
	"math"
	"slices"
	"testing"

	"parterre/api"
	"parterre/hada"
)

// wrong is a square, and what is wrong with it.
type wrong struct {
	s    api.Square
	want api.Errno
}

// instead has another number in one cell.
func instead(s api.Square, place, x int) api.Square {
	out := clone(s)
	out.Cells[place] = x
	return out
}

// wrongOnes have each error of H1; where several apply, the one that is said first.
func wrongOnes() []wrong {
	four, eight, last := paley(3), doubled(3), paley(23)
	short := cells(4, four.Cells[:15]...)
	out := []wrong{
		{api.Square{}, api.ErrRange},
		{cells(0, 1), api.ErrRange},
		{cells(-1, 1), api.ErrRange},
		{cells(-4, four.Cells...), api.ErrRange},
		{cells(25), api.ErrRange},
		{table(25, func(i, j int) int { return 1 }), api.ErrRange},
		{williamson([]int{1, -1, -1, -1, -1, -1, -1}, []int{1, 1, -1, -1, -1, -1, 1}, []int{1, -1, 1, -1, -1, 1, -1}, []int{1, -1, -1, 1, 1, -1, -1}), api.ErrRange},
		{doubled(5), api.ErrRange},
		{cells(1<<32, 2), api.ErrRange},
		{cells(1 << 32), api.ErrRange}, // this, times itself, is 0 modulo 2^64
		{cells(1<<32+4, four.Cells...), api.ErrRange},
		{cells(math.MinInt), api.ErrRange},
		{cells(math.MaxInt, 1), api.ErrRange},
		{cells(1), api.ErrShape},
		{cells(1, 1, 1), api.ErrShape},
		{cells(1, 0, 0), api.ErrShape},
		{cells(2, 1, 1), api.ErrShape},
		{cells(2, 1, 1, 1, -1, 1), api.ErrShape},
		{cells(3, four.Cells...), api.ErrShape},
		{cells(8, four.Cells...), api.ErrShape},
		{cells(4, eight.Cells...), api.ErrShape},
		{cells(24), api.ErrShape},
		{cells(24, last.Cells[1:]...), api.ErrShape},
		{cells(24, append(slices.Clone(last.Cells), 1)...), api.ErrShape},
		{short, api.ErrShape},
		{instead(short, 3, 7), api.ErrShape},
		{cells(1, 0), api.ErrRange},
		{cells(1, 2), api.ErrRange},
		{cells(1, -2), api.ErrRange},
		{cells(2, 2, 1, 1, -2), api.ErrRange},
		{cells(2, 1, 0, 0, 1), api.ErrRange},  // the products are 0 all together, but 0 is no sign
		{cells(2, 2, 2, 2, -2), api.ErrRange}, // likewise
		{cells(2, 1, 1, 1, 0), api.ErrRange},  // and the rows are not so either
		{cells(3, 1, 1, 1, 1, 1, 1, 1, 1, 3), api.ErrRange},
		{instead(last, 575, 0), api.ErrRange},
		{instead(last, 575, math.MaxInt), api.ErrRange},
		{instead(last, 0, math.MinInt), api.ErrRange},
		{instead(last, 0, 1<<32+1), api.ErrRange},
		{instead(last, 0, 255), api.ErrRange},
		{cells(2, 1, 1, 1, 1), api.ErrNone},
		{cells(2, 1, -1, -1, 1), api.ErrNone},
		{cells(2, -1, 1, 1, -1), api.ErrNone},
		{table(3, func(i, j int) int { return 1 }), api.ErrNone},
		{table(24, func(i, j int) int { return 1 }), api.ErrNone},
		{table(24, func(i, j int) int { return -1 }), api.ErrNone},
	}
	for place := range four.Cells {
		out = append(out, wrong{instead(four, place, -four.Cells[place]), api.ErrNone})
	}
	return out
}

// TestCheckOfWrong has H1's errors.
func TestCheckOfWrong(t *testing.T) {
	for _, w := range wrongOnes() {
		wantError(t, name("Check", w.s), hada.Check(w.s), w.want)
		wantError(t, name("what the words say", w.s), wrongWith(w.s), w.want)
	}
}

// TestCheckOfAllSmall has H1: all squares of signs of a side of at most 4, and how many of them books count.
func TestCheckOfAllSmall(t *testing.T) {
	for side, many := range []int{1: 2, 2: 8, 3: 0, 4: 768} {
		found := 0
		for s := range allSigns(side) {
			e := hada.Check(s)
			if e == api.OK {
				found++
			}
			wantError(t, name("Check", s), e, wrongWith(s))
		}
		if found != many {
			t.Errorf("side %d: %d are Hadamard matrices, want %d", side, found, many)
		}
	}
}

// TestCheckOfOtherNumbers has H1: all squares of side 2 of some numbers, and each number alone.
func TestCheckOfOtherNumbers(t *testing.T) {
	some := []int{-2, -1, 0, 1, 2, 3, math.MinInt, math.MaxInt}
	for _, a := range some {
		wantError(t, name("Check", a), hada.Check(cells(1, a)), wrongWith(cells(1, a)))
		for _, b := range some {
			for _, c := range some {
				for _, d := range some {
					s := cells(2, a, b, c, d)
					wantError(t, name("Check", s), hada.Check(s), wrongWith(s))
				}
			}
		}
	}
}

// TestCheckOfLengths has H1: each side, with each number of cells.
func TestCheckOfLengths(t *testing.T) {
	for side := -2; side <= 27; side++ {
		for long := range 28 * 28 {
			s := cells(side, slices.Repeat([]int{1}, long)...)
			wantError(t, name("Check", side, long), hada.Check(s), wrongWith(s))
		}
	}
}

// TestCheckOfGreat has H1: those of each side that has one (told by their number, since all are many); with one cell otherwise; with one row the same as another, so that just these two are not so.
func TestCheckOfGreat(t *testing.T) {
	for n, s := range greatOnes() {
		wantError(t, name("Check", s), hada.Check(s), api.OK)
		wantError(t, name("what the words say", s), wrongWith(s), api.OK)
		for place, x := range s.Cells {
			wantError(t, name("Check", n, place), hada.Check(instead(s, place, -x)), api.ErrNone)
			wantError(t, name("Check", n, place), hada.Check(instead(s, place, 3*x)), api.ErrRange)
			wantError(t, name("Check", n, place), hada.Check(instead(s, place, 0)), api.ErrRange)
		}
		for i := range s.Side {
			for j := range s.Side {
				if i == j {
					continue
				}
				rows := rowsOf(s)
				rows[j] = times(2*(n%2)-1, rows[i])
				wantError(t, name("Check", n, i, j), hada.Check(square(rows)), api.ErrNone)
			}
		}
	}
}

// TestCheckOfNearOnes has H1: rows that have little together, or less than nothing, but are not so.
func TestCheckOfNearOnes(t *testing.T) {
	for n, s := range greatOnes() {
		next := numbers(n)
		for range 20 {
			near := clone(s)
			for range 2 + next(4) {
				i, j := next(s.Side), next(s.Side)
				near.Cells[i*s.Side+j] *= -1
			}
			wantError(t, name("Check", near), hada.Check(near), wrongWith(near))
		}
		for side := 3; side < s.Side; side++ {
			rows := rowsOf(s)
			part := table(side, func(i, j int) int { return rows[i][j] })
			wantError(t, name("Check", part), hada.Check(part), wrongWith(part))
		}
	}
}

// TestCheckFirst has H1: all that have matrices say this first, whatever else is wrong, and nothing beside it.
func TestCheckFirst(t *testing.T) {
	for _, w := range wrongOnes() {
		s, e := hada.Even(w.s)
		wantSquare(t, name("Even", w.s), s, e, api.Square{}, w.want)
		n, e := hada.Excess(w.s)
		wantNumber(t, name("Excess", w.s), n, e, 0, w.want)
		d, e := hada.Blocks(w.s)
		wantDesign(t, name("Blocks", w.s), d, e, api.Design{}, w.want)
		for _, other := range []api.Square{cells(1, 1), paley(3), paley(23)} {
			s, e = hada.Product(w.s, other)
			wantSquare(t, name("Product", w.s, other), s, e, api.Square{}, w.want)
			s, e = hada.Product(other, w.s)
			wantSquare(t, name("Product", other, w.s), s, e, api.Square{}, w.want)
		}
		for _, second := range wrongOnes() {
			s, e = hada.Product(w.s, second.s)
			wantSquare(t, name("Product", w.s, second.s), s, e, api.Square{}, w.want)
		}
	}
}
