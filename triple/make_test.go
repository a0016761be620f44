package triple_test

import (
	"fmt"
	"math"
	"slices"
	"testing"

	"parterre/api"
	"parterre/triple"
)

// TestMake has T2: each v from 1 to 33.
func TestMake(t *testing.T) {
	for v := 1; v <= 33; v++ {
		got, e := triple.Make(v)
		call := fmt.Sprintf("Make of %d", v)
		if slices.Contains(makes(), v) {
			wantDesign(t, call, got, e, made(v))
		} else {
			wantNoDesign(t, call, got, e, api.ErrNone)
		}
	}
}

// TestMakeOutOfRange has T2's first error, also where v is neither 1 nor 3 modulo 6.
func TestMakeOutOfRange(t *testing.T) {
	for _, v := range []int{0, -1, -2, -3, -5, -6, 34, 36, 37, 39, 40, 1<<32 + 3, math.MinInt, math.MinInt + 1, math.MaxInt, math.MaxInt - 1} {
		got, e := triple.Make(v)
		wantNoDesign(t, fmt.Sprintf("Make of %d", v), got, e, api.ErrRange)
	}
}

// TestMakeByHand has T2 of 3, 7, 9 and 13 points.
func TestMakeByHand(t *testing.T) {
	for v, want := range map[int]string{
		1:  "[]",
		3:  "[[0 1 2]]",
		7:  "[[0 1 3] [0 2 4] [0 5 6] [1 2 6] [1 4 5] [2 3 5] [3 4 6]]",
		9:  "[[0 1 5] [0 2 4] [0 3 6] [0 7 8] [1 2 3] [1 4 7] [1 6 8] [2 5 8] [2 6 7] [3 4 8] [3 5 7] [4 5 6]]",
		13: "[[0 1 6] [0 2 5] [0 3 7] [0 4 8] [0 9 11] [0 10 12] [1 2 7] [1 3 4] [1 5 9] [1 8 10] [1 11 12] [2 3 6] [2 4 12] [2 8 9] [2 10 11] [3 5 12] [3 8 11] [3 9 10] [4 5 10] [4 6 9] [4 7 11] [5 6 11] [5 7 8] [6 7 10] [6 8 12] [7 9 12]]",
	} {
		got, e := triple.Make(v)
		if text := fmt.Sprint(got.Blocks); got.Points != v || text != want || e != api.OK {
			t.Errorf("Make of %d: got %d points, %s, error %d; want %s", v, got.Points, text, e, want)
		}
	}
}

// TestDouble has T3's first: of all up to 15 points.
func TestDouble(t *testing.T) {
	for _, d := range systems() {
		got, e := triple.Double(d)
		if d.Points <= 15 {
			wantDesign(t, name("Double", d), got, e, doubled(d))
		} else {
			wantNoDesign(t, name("Double", d), got, e, api.ErrFull)
		}
	}
}

// TestDoubleByHand has T3's first of one point, and of three.
func TestDoubleByHand(t *testing.T) {
	got, e := triple.Double(of(1))
	wantDesign(t, "Double of one point", got, e, of(3, []int{0, 1, 2}))
	got, e = triple.Double(got)
	wantDesign(t, "Double of three points", got, e, of(7, []int{0, 1, 2}, []int{0, 3, 6}, []int{0, 4, 5}, []int{1, 3, 5}, []int{1, 4, 6}, []int{2, 3, 4}, []int{2, 5, 6}))
}

// TestProduct has T3's second: of all two, so far as they have no more than 33 points.
func TestProduct(t *testing.T) {
	one, three := of(1), of(3, []int{0, 1, 2})
	for _, d := range systems() {
		for _, other := range []api.Design{one, three, strewn(binary(7), 3), ternary(9)} {
			for _, two := range [][2]api.Design{{d, other}, {other, d}} {
				call := name(name("Product", two[0])+" by a system", two[1])
				got, e := triple.Product(two[0], two[1])
				if d.Points*other.Points <= 33 {
					wantDesign(t, call, got, e, multiplied(two[0], two[1]))
				} else {
					wantNoDesign(t, call, got, e, api.ErrFull)
				}
			}
		}
	}
}

// TestProductByHand has T3's second: the point of a pair is the first times as many as the second has, and the second.
func TestProductByHand(t *testing.T) {
	three := of(3, []int{0, 1, 2})
	got, e := triple.Product(three, three)
	wantDesign(t, "Product of 3 and 3", got, e, of(9,
		[]int{0, 1, 2}, []int{0, 3, 6}, []int{0, 4, 8}, []int{0, 5, 7}, []int{1, 3, 8}, []int{1, 4, 7},
		[]int{1, 5, 6}, []int{2, 3, 7}, []int{2, 4, 6}, []int{2, 5, 8}, []int{3, 4, 5}, []int{6, 7, 8}))
	got, e = triple.Product(of(7, binary(7).Blocks...), three)
	if e != api.OK || !slices.Equal(got.Blocks[0], []int{0, 1, 2}) || !slices.Equal(got.Blocks[1], []int{0, 3, 6}) {
		t.Errorf("Product of 7 and 3: got %v, error %d", got, e)
	}
	got, e = triple.Product(three, binary(7))
	if e != api.OK || !slices.Equal(got.Blocks[0], []int{0, 1, 2}) || !slices.Equal(got.Blocks[1], []int{0, 3, 4}) {
		t.Errorf("Product of 3 and 7: got %v, error %d", got, e)
	}
}

// TestInOrder has T1: what is told has its points and its blocks in order, and is a system.
func TestInOrder(t *testing.T) {
	look := func(call string, d api.Design) {
		if !slices.IsSortedFunc(d.Blocks, slices.Compare) || slices.ContainsFunc(d.Blocks, func(b []int) bool { return !slices.IsSorted(b) }) {
			t.Errorf("%s is not in order", name(call, d))
		}
		if !isSystem(d) || triple.Check(d) != api.OK {
			t.Errorf("%s is no system", name(call, d))
		}
	}
	for _, v := range makes() {
		d, _ := triple.Make(v)
		look("Make", d)
	}
	for _, d := range systems() {
		if got, e := triple.Double(d); e == api.OK {
			look("Double", got)
		}
		for _, other := range systems() {
			if got, e := triple.Product(d, other); e == api.OK {
				look("Product", got)
			}
		}
	}
	for _, v := range []int{1, 3, 7, 9} {
		d, _ := triple.Grow(v, allOf(v)[0].Blocks[v/9:])
		look("Grow", d)
	}
}
