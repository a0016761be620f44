package triple_test

import (
	"math"
	"slices"
	"testing"

	"parterre/api"
	"parterre/triple"
)

// wrong is a design, and what is wrong with it.
type wrong struct {
	d    api.Design
	want api.Errno
}

// without leaves one block out.
func without(d api.Design, number int) api.Design {
	return of(d.Points, slices.Delete(slices.Clone(d.Blocks), number, number+1)...)
}

// with puts blocks behind the others.
func with(d api.Design, blocks ...[]int) api.Design {
	return of(d.Points, slices.Concat(d.Blocks, blocks)...)
}

// wrongOnes has each error of T1: those of chapter 8 first.
func wrongOnes() []wrong {
	three, seven := of(3, []int{0, 1, 2}), binary(7)
	many := slices.Repeat([][]int{{0, 1, 2}}, 201)
	exchanged := of(7, slices.Concat(seven.Blocks[:6], [][]int{{0, 1, 3}})...)
	return []wrong{
		{api.Design{}, api.ErrRange},
		{of(-1), api.ErrRange},
		{of(41), api.ErrRange},
		{of(0, []int{2, 1, 0}), api.ErrRange},
		{of(math.MaxInt), api.ErrRange},
		{of(math.MinInt, many...), api.ErrRange},
		{of(3, many...), api.ErrFull},
		{of(1, make([][]int, 201)...), api.ErrFull},
		{of(37, moved(37, []int{0, 1, 3}, []int{0, 4, 26}, []int{0, 5, 14}, []int{0, 6, 25}, []int{0, 7, 17}, []int{0, 8, 21}).Blocks...), api.ErrFull},
		{of(2, []int{0, 1, 2}), api.ErrRange},
		{of(3, []int{-1, 0, 1}), api.ErrRange},
		{of(3, []int{0, 1}, []int{0, 1, 3}), api.ErrRange},
		{of(3, []int{2, 1, 3}), api.ErrRange},
		{with(seven, []int{7}), api.ErrRange},
		{of(3, []int{0, 2, 1}), api.ErrShape},
		{of(3, []int{0, 1, 1}), api.ErrShape},
		{of(3, nil, []int{2, 1, 0}), api.ErrShape},
		{of(3, []int{1, 0}, []int{3}), api.ErrShape},
		{with(seven, []int{0, 0}), api.ErrShape},
		{of(1, []int{0}), api.ErrNone},
		{of(1, nil), api.ErrNone},
		{of(1, []int{0}, []int{0}, []int{0}), api.ErrNone},
		{of(2), api.ErrNone},
		{of(2, []int{0, 1}), api.ErrNone},
		{of(2, nil), api.ErrNone},
		{of(3), api.ErrNone},
		{of(3, []int{0, 1}, []int{0, 2}, []int{1, 2}), api.ErrNone},
		{with(three, []int{0, 1, 2}), api.ErrNone},
		{with(three, nil), api.ErrNone},
		{with(three, []int{1}), api.ErrNone},
		{with(three, []int{0, 2}), api.ErrNone},
		{of(4), api.ErrNone},
		{of(4, []int{0, 1, 2, 3}), api.ErrNone},
		{of(4, []int{0, 1, 2}), api.ErrNone},
		{of(4, threes(4)...), api.ErrNone},
		{of(4, []int{0, 1, 2}, []int{0, 3}, []int{1, 3}, []int{2, 3}), api.ErrNone},
		{of(40), api.ErrNone},
		{of(40, many[:200]...), api.ErrNone},
		{of(6, threes(6)...), api.ErrNone},
		{without(seven, 0), api.ErrNone},
		{without(seven, 6), api.ErrNone},
		{with(seven, nil), api.ErrNone},
		{with(seven, seven.Blocks[3]), api.ErrNone},
		{with(seven, seven.Blocks...), api.ErrNone},
		{exchanged, api.ErrNone},
		{of(8, seven.Blocks...), api.ErrNone},
		{moved(13, []int{0, 1, 3}, []int{0, 4, 9}), api.ErrNone},
		{moved(13, []int{0, 1, 4}), api.ErrNone},
		{without(bose(33), 175), api.ErrNone},
		{with(bose(33), []int{30, 31, 32}), api.ErrNone},
		{of(34, bose(33).Blocks...), api.ErrNone},
		{moved(39, []int{0, 1, 3}, []int{0, 4, 9}, []int{0, 6, 13}, []int{0, 8, 18}, []int{0, 11, 25}), api.ErrNone},
	}
}

// TestCheck has T1's errors.
func TestCheck(t *testing.T) {
	for _, w := range wrongOnes() {
		if e := triple.Check(w.d); e != w.want {
			t.Errorf("%s: got %d, want %d", name("Check", w.d), e, w.want)
		}
	}
}

// TestCheckFindsNothing has T1: systems of all numbers of points, in whatever order their blocks are.
func TestCheckFindsNothing(t *testing.T) {
	for _, d := range systems() {
		if e := triple.Check(d); e != api.OK {
			t.Errorf("%s: got %d", name("Check", d), e)
		}
	}
	for _, v := range []int{1, 3, 7, 9} {
		for _, d := range allOf(v) {
			if e := triple.Check(d); e != api.OK {
				t.Errorf("%s: got %d", name("Check", d), e)
			}
		}
	}
}

// TestCheckOfAllSmall has T1: all designs of up to 3 points and of up to 3 blocks.
func TestCheckOfAllSmall(t *testing.T) {
	good := 0
	for n := 1; n <= 3; n++ {
		lists := [][][]int{{}}
		for i := 0; i < len(lists); i++ {
			d := of(n, lists[i]...)
			want := api.ErrNone
			if isSystem(d) {
				want = api.OK
				good++
			}
			if e := triple.Check(d); e != want {
				t.Errorf("%s: got %d, want %d", name("Check", d), e, want)
			}
			if len(lists[i]) == 3 {
				continue
			}
			for _, b := range [][]int{nil, {0}, {1}, {2}, {0, 1}, {0, 2}, {1, 2}, {0, 1, 2}} {
				if len(b) == 0 || b[len(b)-1] < n {
					lists = append(lists, append(slices.Clone(lists[i]), b))
				}
			}
		}
	}
	if good != 2 {
		t.Errorf("%d are systems, want 2", good)
	}
}

// TestCheckOfOthers has T1: systems of which one block, or some, are other ones.
func TestCheckOfOthers(t *testing.T) {
	for start, v := range []int{7, 9, 13, 15, 33} {
		next := numbers(start)
		all := threes(v)
		for range 30 {
			d := made(v)
			for range 1 + next(3) {
				d.Blocks[next(len(d.Blocks))] = all[next(len(all))]
			}
			want := api.ErrNone
			if isSystem(d) {
				want = api.OK
			}
			if e := triple.Check(d); e != want {
				t.Errorf("%s: got %d, want %d", name("Check", d), e, want)
			}
		}
	}
}

// TestCheckFirst has T1: the others say this first, and nothing beside it (P1).
func TestCheckFirst(t *testing.T) {
	for _, w := range wrongOnes() {
		got, e := triple.Double(w.d)
		wantNoDesign(t, name("Double", w.d), got, e, w.want)
		n, e := triple.Passes(w.d)
		wantNoNumber(t, name("Passes", w.d), n, e, w.want)
		for _, good := range []api.Design{of(1), binary(7), bose(33)} {
			got, e = triple.Product(w.d, good)
			wantNoDesign(t, name("Product by a good one", w.d), got, e, w.want)
			got, e = triple.Product(good, w.d)
			wantNoDesign(t, name("Product of a good one", w.d), got, e, w.want)
		}
		for _, other := range wrongOnes() {
			got, e = triple.Product(w.d, other.d)
			wantNoDesign(t, name("Product by a wrong one", w.d), got, e, w.want)
		}
	}
}
