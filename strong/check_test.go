package strong_test

import (
	"math"
	"slices"
	"testing"

	"parterre/api"
	"parterre/strong"
)

// wrong is a square, and what is wrong with it.
type wrong struct {
	s    api.Square
	want api.Errno
}

// wrongOnes have each error of G1; where several apply, the one that is said first.
func wrongOnes() []wrong {
	ring, last := round(5, 1), apart(2, 12)
	short := cells(5, ring.Cells[:24]...)
	return []wrong{
		{api.Square{}, api.ErrRange},
		{cells(0, 0), api.ErrRange},
		{cells(-1, 0), api.ErrRange},
		{cells(-5, ring.Cells...), api.ErrRange},
		{cells(25), api.ErrRange},
		{empty(25), api.ErrRange},
		{complete(25), api.ErrRange},
		{empty(33), api.ErrRange},
		{cells(1<<32, 2), api.ErrRange},
		{cells(1 << 32), api.ErrRange}, // this, times itself, is 0 modulo 2^64
		{cells(1<<32+5, ring.Cells...), api.ErrRange},
		{cells(math.MinInt), api.ErrRange},
		{cells(math.MaxInt, 0), api.ErrRange},
		{cells(1), api.ErrShape},
		{cells(1, 0, 0), api.ErrShape},
		{cells(1, 1, 1), api.ErrShape},
		{cells(1, 2, 2), api.ErrShape},
		{cells(2, 0, 1, 1), api.ErrShape},
		{cells(2, 0, 1, 1, 0, 0), api.ErrShape},
		{cells(4, ring.Cells...), api.ErrShape},
		{cells(6, ring.Cells...), api.ErrShape},
		{cells(24), api.ErrShape},
		{cells(24, last.Cells[1:]...), api.ErrShape},
		{cells(24, append(slices.Clone(last.Cells), 0)...), api.ErrShape},
		{short, api.ErrShape},
		{instead(short, 3, 7), api.ErrShape},
		{instead(short, 0, 1), api.ErrShape},
		{cells(1, 2), api.ErrRange},
		{cells(1, -1), api.ErrRange},
		{cells(2, 0, -1, -1, 0), api.ErrRange},
		{cells(2, 0, 2, 2, 0), api.ErrRange},
		{cells(2, 1, 0, 0, 2), api.ErrRange}, // a place is joined to itself, ahead of the cell
		{cells(2, 0, 1, 0, 2), api.ErrRange}, // and one to another one that is not to it
		{cells(3, 0, 1, 0, 0, 1, 0, 0, 0, 3), api.ErrRange},
		{instead(last, 575, 2), api.ErrRange},
		{instead(last, 575, math.MaxInt), api.ErrRange},
		{instead(last, 0, math.MinInt), api.ErrRange},
		{instead(last, 0, 1<<32), api.ErrRange},
		{instead(last, 1, 1<<32+1), api.ErrRange},
		{instead(last, 1, 256), api.ErrRange},
		{cells(1, 1), api.ErrNone},
		{cells(2, 1, 0, 0, 0), api.ErrNone},
		{cells(2, 0, 0, 0, 1), api.ErrNone},
		{cells(2, 0, 1, 0, 0), api.ErrNone},
		{cells(2, 0, 0, 1, 0), api.ErrNone},
		{cells(3, 0, 1, 0, 0, 0, 1, 1, 0, 0), api.ErrNone}, // a ring that goes one way
		{cells(24, slices.Repeat([]int{1}, 576)...), api.ErrNone},
		{instead(last, 575, 1), api.ErrNone},
		{instead(last, 574, 1), api.ErrNone},
		{instead(last, 551, 1), api.ErrNone},
		{instead(last, 0, 1), api.ErrNone},
	}
}

// TestCheckOfWrong has G1's errors.
func TestCheckOfWrong(t *testing.T) {
	for _, w := range wrongOnes() {
		wantError(t, name("Check", w.s), strong.Check(w.s), w.want)
		wantError(t, name("what the words say", w.s), wrongWith(w.s), w.want)
	}
}

// TestCheckOfAllSmall has G1: all squares of 0 and 1 of a side of at most 4, and how many of them are graphs.
func TestCheckOfAllSmall(t *testing.T) {
	for i, many := range []int{1, 2, 8, 64} {
		side, found := i+1, 0
		for bits := range 1 << (side * side) {
			s := drawn(side, func(a, b int) bool { return bits>>(a*side+b)&1 == 1 })
			e := strong.Check(s)
			if e == api.OK {
				found++
			}
			wantError(t, name("Check", s), e, wrongWith(s))
		}
		if found != many {
			t.Errorf("side %d: %d are graphs, want %d", side, found, many)
		}
	}
}

// TestCheckOfOtherNumbers has G1: all squares of side 2 of some numbers, and each number alone.
func TestCheckOfOtherNumbers(t *testing.T) {
	some := []int{-2, -1, 0, 1, 2, 3, math.MinInt, math.MaxInt}
	for _, a := range some {
		wantError(t, name("Check", a), strong.Check(cells(1, a)), wrongWith(cells(1, a)))
		for _, b := range some {
			for _, c := range some {
				for _, d := range some {
					s := cells(2, a, b, c, d)
					wantError(t, name("Check", s), strong.Check(s), wrongWith(s))
				}
			}
		}
	}
}

// TestCheckOfLengths has G1: each side, with each number of cells.
func TestCheckOfLengths(t *testing.T) {
	for side := -2; side <= 27; side++ {
		for long := range 28 * 28 {
			s := cells(side, make([]int, long)...)
			wantError(t, name("Check", side, long), strong.Check(s), wrongWith(s))
		}
	}
}

// TestCheckOfEachCell has G1: graphs of all sizes, and these with one cell otherwise.
func TestCheckOfEachCell(t *testing.T) {
	for n, g := range some() {
		wantError(t, name("Check", g), strong.Check(g), api.OK)
		wantError(t, name("what the words say", g), wrongWith(g), api.OK)
		for place, x := range g.Cells {
			wantError(t, name("Check", n, place), strong.Check(instead(g, place, 1-x)), api.ErrNone)
			wantError(t, name("Check", n, place), strong.Check(instead(g, place, x+2)), api.ErrRange)
			wantError(t, name("Check", n, place), strong.Check(instead(g, place, -1)), api.ErrRange)
		}
	}
}

// TestCheckFirst has G1: all that have graphs say this first, and nothing beside it.
func TestCheckFirst(t *testing.T) {
	for _, w := range wrongOnes() {
		numbers, e := strong.Numbers(w.s)
		want(t, name("Numbers", w.s), numbers, e, api.Strong{}, w.want)
		other, e := strong.Other(w.s)
		wantSquare(t, name("Other", w.s), other, e, api.Square{}, w.want)
		friend, e := strong.Friend(w.s)
		want(t, name("Friend", w.s), friend, e, 0, w.want)
	}
}
