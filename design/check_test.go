package design_test

import (
	"math"
	"slices"
	"testing"

	"parterre/api"
	"parterre/design"
)

// wrong is a design, and what is wrong with it.
type wrong struct {
	d    api.Design
	want api.Errno
}

// wrongOnes has each error of D1; where several apply, the one that is said first.
func wrongOnes() []wrong {
	of := func(n int, blocks ...[]int) api.Design { return api.Design{Points: n, Blocks: blocks} }
	many := slices.Repeat([][]int{{0, 1}}, 201)
	return []wrong{
		{api.Design{}, api.ErrRange},
		{of(0, []int{0}), api.ErrRange},
		{of(-1), api.ErrRange},
		{of(-3, []int{0, 1}), api.ErrRange},
		{of(41), api.ErrRange},
		{of(41, []int{0, 40}), api.ErrRange},
		{of(64, []int{0, 63}), api.ErrRange},
		{of(1<<32+7, []int{0}), api.ErrRange},
		{of(math.MaxInt), api.ErrRange},
		{of(math.MinInt), api.ErrRange},
		{of(0, []int{1, 0}), api.ErrRange},
		{of(0, many...), api.ErrRange},
		{of(41, many...), api.ErrRange},
		{of(2, many...), api.ErrFull},
		{of(40, make([][]int, 201)...), api.ErrFull},
		{of(40, make([][]int, 1000)...), api.ErrFull},
		{of(1, many...), api.ErrFull},
		{of(2, append([][]int{{1, 0}}, many...)...), api.ErrFull},
		{of(1, []int{1}), api.ErrRange},
		{of(3, []int{-1}), api.ErrRange},
		{of(3, []int{3}), api.ErrRange},
		{of(40, []int{0, 40}), api.ErrRange},
		{of(40, []int{64}), api.ErrRange},
		{of(3, []int{0, 1}, nil, []int{1, 3}), api.ErrRange},
		{of(3, []int{math.MinInt, 0}), api.ErrRange},
		{of(3, []int{0, math.MaxInt}), api.ErrRange},
		{of(3, []int{1 << 32}), api.ErrRange},
		{of(3, []int{1, 0, 3}), api.ErrRange},
		{of(3, []int{2, 1, -1}), api.ErrRange},
		{of(3, []int{1, 1, 5}), api.ErrRange},
		{of(3, []int{3}, []int{1, 0}), api.ErrRange},
		{of(3, []int{1, 0}), api.ErrShape},
		{of(3, []int{1, 1}), api.ErrShape},
		{of(3, []int{0, 2, 1}), api.ErrShape},
		{of(3, []int{0, 1, 1}), api.ErrShape},
		{of(1, []int{0, 0}), api.ErrShape},
		{of(40, make([]int, 41)), api.ErrShape},
		{of(3, []int{1, 0}, []int{3}), api.ErrShape},
		{of(3, []int{0, 1}, []int{2, 2}, []int{-1}), api.ErrShape},
		{of(2, append(many[:199:199], []int{1, 0})...), api.ErrShape},
	}
}

// TestCheck has D1's errors.
func TestCheck(t *testing.T) {
	for _, w := range wrongOnes() {
		if e := design.Check(w.d); e != w.want {
			t.Errorf("%s: got %d, want %d", name("Check", w.d), e, w.want)
		}
	}
}

// TestCheckFindsNothing has D1's edges: from 1 to 40 points, up to 200 blocks, empty ones and the same one more than once.
func TestCheckFindsNothing(t *testing.T) {
	good := some()
	for n := 1; n <= 40; n++ {
		whole := first(n)
		good = append(good,
			api.Design{Points: n},
			api.Design{Points: n, Blocks: [][]int{}},
			api.Design{Points: n, Blocks: [][]int{nil, {}, {n - 1}, {0}, whole, {0}, nil}},
			api.Design{Points: n, Blocks: slices.Repeat([][]int{whole}, 200)},
			api.Design{Points: n, Blocks: make([][]int, 200)},
		)
	}
	for _, d := range good {
		if e := design.Check(d); e != api.OK {
			t.Errorf("%s: got %d", name("Check", d), e)
		}
	}
}

// TestCheckOfAllShortBlocks has D1: all blocks of up to 3 numbers from -1 to 3, of 3 points.
func TestCheckOfAllShortBlocks(t *testing.T) {
	blocks := [][]int{{}}
	for i := 0; len(blocks[i]) < 3; i++ {
		for x := -1; x <= 3; x++ {
			blocks = append(blocks, append(slices.Clone(blocks[i]), x))
		}
	}
	for _, b := range blocks {
		want := api.OK
		switch {
		case slices.Contains(b, -1) || slices.Contains(b, 3):
			want = api.ErrRange
		case !slices.Equal(b, listOf(3, func(p int) bool { return slices.Contains(b, p) })):
			want = api.ErrShape
		}
		d := api.Design{Points: 3, Blocks: [][]int{{0, 2}, b}}
		if e := design.Check(d); e != want {
			t.Errorf("%s: got %d, want %d", name("Check", d), e, want)
		}
	}
}

// TestCheckFirst has D1: all others say this first, whatever else they are given, and nothing beside it (P1).
func TestCheckFirst(t *testing.T) {
	for _, w := range wrongOnes() {
		for _, x := range []int{0, 1, 2, -1, 5, 40, 200, math.MinInt, math.MaxInt} {
			k, lambda, e := design.Level(w.d, x)
			wantNoLevel(t, name("Level", w.d), k, lambda, e, w.want)
			got, e := design.Derived(w.d, x)
			wantNoDesign(t, name("Derived", w.d), got, e, w.want)
			got, e = design.Residual(w.d, x)
			wantNoDesign(t, name("Residual", w.d), got, e, w.want)
		}
		got, e := design.Complement(w.d)
		wantNoDesign(t, name("Complement", w.d), got, e, w.want)
		got, e = design.Dual(w.d)
		wantNoDesign(t, name("Dual", w.d), got, e, w.want)
		list, e := design.Meets(w.d)
		wantNoList(t, name("Meets", w.d), list, e, w.want)
		list, e = design.Parallel(w.d)
		wantNoList(t, name("Parallel", w.d), list, e, w.want)
	}
}
