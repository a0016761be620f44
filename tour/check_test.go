package tour_test

import (
	"math"
	"slices"
	"testing"

	"parterre/api"
	"parterre/tour"
)

// wrong is a tournament, and what is wrong with it.
type wrong struct {
	t    api.Square
	want api.Errno
}

func square(n int, cells ...int) api.Square { return api.Square{Side: n, Cells: cells} }

// wrongOnes have each error of T1; where several apply, the one that is said first.
func wrongOnes() []wrong {
	nine := falling(9)
	return []wrong{
		{square(0), api.ErrRange},
		{square(-1, 0), api.ErrRange},
		{square(-2, 0, 1, 0, 0), api.ErrRange},
		{square(-3, circle(3).Cells...), api.ErrRange},
		{square(0, 0), api.ErrRange},
		{square(0, 2), api.ErrRange},
		{square(10), api.ErrRange},
		{falling(10), api.ErrRange},
		{square(10, 2), api.ErrRange},
		{square(81, nine.Cells...), api.ErrRange},
		{square(1 << 32), api.ErrRange},
		{square(1<<32+1, 0), api.ErrRange},
		{square(1<<32+3, circle(3).Cells...), api.ErrRange},
		{square(math.MinInt), api.ErrRange},
		{square(math.MinInt, 0), api.ErrRange},
		{square(math.MaxInt, 0), api.ErrRange},
		{square(1), api.ErrShape},
		{square(1, 0, 0), api.ErrShape},
		{square(1, 2, 2), api.ErrShape},
		{square(1, 1, 1), api.ErrShape},
		{square(2), api.ErrShape},
		{square(2, 0, 1), api.ErrShape},
		{square(2, 0, 1, 0), api.ErrShape},
		{square(2, 0, 1, 0, 0, 0), api.ErrShape},
		{square(2, 0, 7, 0), api.ErrShape},
		{square(3, 0, 1, 0, 0), api.ErrShape},
		{square(3, slices.Concat(circle(3).Cells, []int{0})...), api.ErrShape},
		{square(8, nine.Cells...), api.ErrShape},
		{square(9, falling(8).Cells...), api.ErrShape},
		{square(9, falling(10).Cells...), api.ErrShape},
		{square(9, nine.Cells[:80]...), api.ErrShape},
		{square(1, 2), api.ErrRange},
		{square(1, -1), api.ErrRange},
		{square(2, 0, 1, -1, 0), api.ErrRange},
		{square(2, 0, 2, -1, 0), api.ErrRange}, // their sum is 1
		{square(2, 0, 2, 0, 0), api.ErrRange},
		{square(2, 0, 1, 0, 2), api.ErrRange},
		{square(2, 1, 1, 0, 2), api.ErrRange}, // one beats himself as well
		{square(2, 0, 1, 1, 2), api.ErrRange}, // both beat the other as well
		{square(2, 0, 0, 0, -1), api.ErrRange},
		{square(2, 0, 1, 0, 1<<32), api.ErrRange},
		{square(2, 0, 1<<32+1, 0, 0), api.ErrRange},
		{square(2, 0, math.MaxInt, math.MinInt+2, 0), api.ErrRange},
		{instead(nine, 80, 2), api.ErrRange},
		{instead(nine, 80, math.MinInt), api.ErrRange},
		{instead(instead(nine, 80, math.MaxInt), 0, 1), api.ErrRange},
		{square(1, 1), api.ErrNone},
		{square(2, 0, 0, 0, 0), api.ErrNone},
		{square(2, 0, 1, 1, 0), api.ErrNone},
		{square(2, 1, 1, 0, 0), api.ErrNone},
		{square(2, 0, 1, 0, 1), api.ErrNone},
		{square(2, 1, 0, 0, 1), api.ErrNone},
		{square(2, 1, 1, 1, 1), api.ErrNone},
		{square(3, 0, 1, 1, 0, 0, 1, 1, 0, 0), api.ErrNone},
		{square(3, 0, 1, 0, 0, 0, 1, 0, 0, 0), api.ErrNone},
		{square(3, 0, 1, 1, 0, 1, 1, 0, 0, 0), api.ErrNone},
		{instead(nine, 0, 1), api.ErrNone},
		{instead(nine, 80, 1), api.ErrNone},
		{instead(nine, 79, 1), api.ErrNone},
		{instead(nine, 71, 0), api.ErrNone},
		{instead(nine, 8, 0), api.ErrNone},
		{instead(nine, 72, 1), api.ErrNone},
	}
}

// TestCheckOfWrong has T1's errors.
func TestCheckOfWrong(t *testing.T) {
	for _, w := range wrongOnes() {
		wantError(t, name("Check", w.t), tour.Check(w.t), w.want)
		wantError(t, name("what the words say", w.t), wrongWith(w.t), w.want)
	}
}

// TestCheckFirst has T1: all others but Could say this first, and nothing beside it.
func TestCheckFirst(t *testing.T) {
	for _, w := range wrongOnes() {
		list, e := tour.Scores(w.t)
		wantList(t, name("Scores", w.t), list, e, nil, w.want)
		list, e = tour.Kings(w.t)
		wantList(t, name("Kings", w.t), list, e, nil, w.want)
		list, e = tour.Path(w.t)
		wantList(t, name("Path", w.t), list, e, nil, w.want)
		number, e := tour.Paths(w.t)
		wantNumber(t, name("Paths", w.t), number, e, 0, w.want)
		list, e = tour.Cycle(w.t)
		wantList(t, name("Cycle", w.t), list, e, nil, w.want)
		number, e = tour.Rings(w.t)
		wantNumber(t, name("Rings", w.t), number, e, 0, w.want)
		parts, e := tour.Parts(w.t)
		wantLists(t, name("Parts", w.t), parts, e, nil, w.want)
	}
}

// TestCheckOfSizes has T1: each Side, and each number of Cells, up to and beyond its end.
func TestCheckOfSizes(t *testing.T) {
	for side := -12; side <= 12; side++ {
		for many := range 160 {
			for _, cell := range []int{0, 1, 2} {
				s := square(side, slices.Repeat([]int{cell}, many)...)
				wantError(t, name("Check", s), tour.Check(s), wrongWith(s))
			}
		}
	}
}

// TestCheckOfSome has T1: nothing is wrong with these.
func TestCheckOfSome(t *testing.T) {
	for _, s := range some() {
		wantError(t, name("Check", s), tour.Check(s), api.OK)
	}
}

// TestCheckOfEachCell has T1: each cell of tournaments of all sizes as another number; but as it was it is always wrong.
func TestCheckOfEachCell(t *testing.T) {
	for _, s := range some() {
		for place, cell := range s.Cells {
			for x := -3; x <= 4; x++ {
				want := api.ErrRange
				if x == cell {
					want = api.OK
				} else if x == 0 || x == 1 {
					want = api.ErrNone
				}
				other := instead(s, place, x)
				wantError(t, name("Check", other), tour.Check(other), want)
				wantError(t, name("what the words say", other), wrongWith(other), want)
			}
		}
	}
}

// TestCheckOfEach has T1: all squares of up to two players about the bounds, and all of three and four that have 0 and 1 alone.
func TestCheckOfEach(t *testing.T) {
	for _, all := range []struct{ side, low, high, good int }{{1, -3, 4, 1}, {2, -2, 3, 2}, {3, 0, 1, 8}, {4, 0, 1, 64}} {
		good := 0
		places := all.side * all.side
		values := all.high - all.low + 1
		number := 1
		for range places {
			number *= values
		}
		for number := range number {
			s := api.Square{Side: all.side}
			for range places {
				s.Cells = append(s.Cells, all.low+number%values)
				number /= values
			}
			e := tour.Check(s)
			wantError(t, name("Check", s), e, wrongWith(s))
			if e == api.OK {
				good++
			}
		}
		if good != all.good {
			t.Errorf("%d squares of side %d are good, want %d", good, all.side, all.good)
		}
	}
}
