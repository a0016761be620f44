package triple_test

import (
	"fmt"
	"math"
	"slices"
	"testing"

	"parterre/api"
	"parterre/triple"
)

// TestGrow has T4's second: of nothing, of each block, and of each two that lie apart or meet.
func TestGrow(t *testing.T) {
	for v := 1; v <= 9; v++ {
		systems := allOf(v)
		look := func(blocks ...[]int) {
			got, e := triple.Grow(v, blocks)
			call := fmt.Sprintf("Grow of %d, %v", v, blocks)
			if want, ok := firstWith(systems, blocks); ok {
				wantDesign(t, call, got, e, want)
			} else {
				wantNoDesign(t, call, got, e, api.ErrNone)
			}
		}
		look()
		for _, a := range threes(v) {
			look(a)
			for _, b := range threes(v) {
				if len(union(a, b)) > 4 {
					look(a, b)
				}
			}
		}
	}
}

// TestGrowOfMore has T4's second: blocks that come one behind the other, as long as no two points lie together twice, in any order.
func TestGrowOfMore(t *testing.T) {
	none, some := 0, 0
	for v := 3; v <= 9; v++ {
		systems := allOf(v)
		for start := range 40 {
			var blocks [][]int
			for _, b := range mixed(threes(v), start) {
				if slices.ContainsFunc(blocks, func(c []int) bool { return len(union(b, c)) < 5 }) {
					continue
				}
				blocks = append(blocks, b)
				got, e := triple.Grow(v, blocks)
				call := fmt.Sprintf("Grow of %d, %v", v, blocks)
				if want, ok := firstWith(systems, blocks); ok {
					some++
					wantDesign(t, call, got, e, want)
				} else {
					none++
					wantNoDesign(t, call, got, e, api.ErrNone)
				}
			}
		}
	}
	if none < 100 || some < 100 {
		t.Errorf("of %d there is none, of %d some", none, some)
	}
}

// TestGrowOfWhole has T4's second: of a whole system, whatever the order of its blocks, just this one; of one without some blocks the first that has the others.
func TestGrowOfWhole(t *testing.T) {
	for _, v := range []int{1, 3, 7, 9} {
		systems := allOf(v)
		for i, d := range systems {
			blocks := mixed(d.Blocks, i)
			got, e := triple.Grow(v, blocks)
			wantDesign(t, fmt.Sprintf("Grow of %d, %v", v, blocks), got, e, d)
			if i%20 != 0 {
				continue
			}
			for k := range blocks {
				got, e = triple.Grow(v, blocks[k:])
				want, _ := firstWith(systems, blocks[k:])
				wantDesign(t, fmt.Sprintf("Grow of %d, %v", v, blocks[k:]), got, e, want)
			}
		}
	}
}

// TestGrowByHand has T4's second: what is first.
func TestGrowByHand(t *testing.T) {
	got, e := triple.Grow(1, nil)
	wantDesign(t, "Grow of 1", got, e, of(1))
	got, e = triple.Grow(3, nil)
	wantDesign(t, "Grow of 3", got, e, of(3, []int{0, 1, 2}))
	got, e = triple.Grow(7, nil)
	wantDesign(t, "Grow of 7", got, e, binary(7))
	got, e = triple.Grow(7, [][]int{{4, 5, 6}})
	wantDesign(t, "Grow of 7, 456", got, e, of(7, []int{0, 1, 4}, []int{0, 2, 5}, []int{0, 3, 6}, []int{1, 2, 6}, []int{1, 3, 5}, []int{2, 3, 4}, []int{4, 5, 6}))
	got, e = triple.Grow(9, nil)
	wantDesign(t, "Grow of 9", got, e, of(9,
		[]int{0, 1, 2}, []int{0, 3, 4}, []int{0, 5, 6}, []int{0, 7, 8}, []int{1, 3, 5}, []int{1, 4, 7},
		[]int{1, 6, 8}, []int{2, 3, 8}, []int{2, 4, 6}, []int{2, 5, 7}, []int{3, 6, 7}, []int{4, 5, 8}))
}

// wrongGrows has each error of T4; where several apply, the one that is said first.
func wrongGrows() []struct {
	v      int
	blocks [][]int
	want   api.Errno
} {
	blocks := func(list ...[]int) [][]int { return list }
	many := slices.Repeat([][]int{{0, 1, 2}}, 201)
	return []struct {
		v      int
		blocks [][]int
		want   api.Errno
	}{
		{0, nil, api.ErrRange},
		{-1, nil, api.ErrRange},
		{10, nil, api.ErrRange},
		{13, nil, api.ErrRange},
		{math.MinInt, many, api.ErrRange},
		{math.MaxInt, many, api.ErrRange},
		{1<<32 + 7, nil, api.ErrRange},
		{0, blocks([]int{2, 1}), api.ErrRange},
		{1, many, api.ErrFull},
		{9, many, api.ErrFull},
		{9, make([][]int, 201), api.ErrFull},
		{9, append([][]int{{9}}, many...), api.ErrFull},
		{1, blocks([]int{0, 1, 2}), api.ErrRange},
		{7, blocks([]int{0, 1, 7}), api.ErrRange},
		{7, blocks([]int{-1, 0, 1}), api.ErrRange},
		{7, blocks([]int{7}), api.ErrRange},
		{7, blocks([]int{0, 1, 2, 7}), api.ErrRange},
		{7, blocks([]int{2, 1, 7}), api.ErrRange},
		{7, blocks([]int{0, 1, math.MaxInt}), api.ErrRange},
		{7, blocks([]int{math.MinInt, 1, 2}), api.ErrRange},
		{7, blocks([]int{0, 1, 2}, []int{0, 1, 2}, []int{7}), api.ErrRange},
		{8, blocks([]int{0, 1, 2}, []int{5, 6, 8}), api.ErrRange},
		{9, blocks([]int{9}, nil), api.ErrRange},
		{9, blocks(nil), api.ErrShape},
		{1, blocks(nil), api.ErrShape},
		{1, blocks([]int{0}), api.ErrShape},
		{7, blocks([]int{0, 1}), api.ErrShape},
		{7, blocks([]int{0, 1, 2, 3}), api.ErrShape},
		{7, blocks([]int{0, 2, 1}), api.ErrShape},
		{7, blocks([]int{1, 0, 2}), api.ErrShape},
		{7, blocks([]int{0, 1, 1}), api.ErrShape},
		{7, blocks([]int{0, 0, 1}), api.ErrShape},
		{7, blocks([]int{0, 1}, []int{7}), api.ErrShape},
		{7, blocks([]int{0, 1, 2}, []int{0, 1, 2}, nil), api.ErrShape},
		{7, append(many[:199:199], []int{3, 4, 4}), api.ErrShape},
		{7, many[:200], api.ErrTwice},
		{3, many[:2], api.ErrTwice},
		{7, blocks([]int{0, 1, 2}, []int{0, 1, 3}), api.ErrTwice},
		{7, blocks([]int{0, 1, 2}, []int{0, 2, 3}), api.ErrTwice},
		{7, blocks([]int{0, 1, 2}, []int{1, 2, 3}), api.ErrTwice},
		{7, blocks([]int{1, 3, 5}, []int{0, 3, 5}), api.ErrTwice},
		{7, blocks([]int{2, 4, 6}, []int{0, 1, 2}, []int{1, 2, 6}), api.ErrTwice},
		{8, many[:2], api.ErrTwice},
		{9, with(ternary(9), []int{6, 7, 8}).Blocks, api.ErrTwice},
		{9, with(ternary(9), []int{0, 1, 3}).Blocks, api.ErrTwice},
		{2, nil, api.ErrNone},
		{4, nil, api.ErrNone},
		{4, blocks([]int{0, 1, 2}), api.ErrNone},
		{5, nil, api.ErrNone},
		{6, nil, api.ErrNone},
		{8, nil, api.ErrNone},
		{8, blocks([]int{0, 1, 2}, []int{3, 4, 5}), api.ErrNone},
		{7, blocks([]int{0, 1, 2}, []int{3, 4, 5}), api.ErrNone},
		{9, blocks([]int{0, 1, 2}, []int{0, 3, 4}, []int{1, 3, 5}, []int{2, 4, 5}), api.ErrNone},
	}
}

// TestGrowWrong has T4's errors, and nothing beside them (P1).
func TestGrowWrong(t *testing.T) {
	for _, w := range wrongGrows() {
		got, e := triple.Grow(w.v, w.blocks)
		wantNoDesign(t, fmt.Sprintf("Grow of %d, %v", w.v, w.blocks), got, e, w.want)
	}
}

// TestGrowOfAllShortBlocks has T4's errors: all blocks of up to 4 numbers from -1 to 3, of 3 points, behind a good one.
func TestGrowOfAllShortBlocks(t *testing.T) {
	blocks := [][]int{{}}
	for i := 0; len(blocks[i]) < 4; i++ {
		for x := -1; x <= 3; x++ {
			blocks = append(blocks, append(slices.Clone(blocks[i]), x))
		}
	}
	for _, b := range blocks {
		want := api.ErrShape
		switch {
		case slices.Contains(b, -1) || slices.Contains(b, 3):
			want = api.ErrRange
		case slices.Equal(b, []int{0, 1, 2}):
			want = api.ErrTwice
		}
		got, e := triple.Grow(3, [][]int{{0, 1, 2}, b})
		wantNoDesign(t, fmt.Sprintf("Grow of 3, 012 and %v", b), got, e, want)
	}
}
