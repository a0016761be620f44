package triple_test

import (
	"fmt"
	"slices"
	"testing"

	"parterre/api"
	"parterre/design"
	"parterre/triple"
)

// TestKirkman has T5: there are systems of v points just where v is 1 or 3 modulo 6.
func TestKirkman(t *testing.T) {
	for v := 1; v <= 33; v++ {
		want := api.ErrNone
		if v%6 == 1 || v%6 == 3 {
			want = api.OK
		}
		d, e := triple.Make(v)
		if e != want {
			t.Errorf("Make of %d: error %d, want %d", v, e, want)
		}
		if e == api.OK && triple.Check(d) != api.OK {
			t.Errorf("%s: no system", name("Make", d))
		}
		if v > 9 {
			continue
		}
		if d, e = triple.Grow(v, nil); e != want {
			t.Errorf("Grow of %d: error %d, want %d", v, e, want)
		}
	}
}

// TestCounting: a system of v points has v (v - 1) / 6 blocks, each point lies in (v - 1) / 2, and what of its blocks is left without a point cuts the others into twos.
func TestCounting(t *testing.T) {
	for _, v := range makes() {
		d, _ := triple.Make(v)
		if 6*len(d.Blocks) != v*(v-1) {
			t.Errorf("Make of %d: %d blocks", v, len(d.Blocks))
		}
		for p := range v {
			if 2*lying(d.Blocks, p) != v-1 {
				t.Errorf("Make of %d: the point %d lies in %d blocks", v, p, lying(d.Blocks, p))
			}
		}
		if v == 1 || v > 15 {
			continue
		}
		twos, _ := design.Derived(d, v/2)
		if list, e := design.Parallel(twos); e != api.OK || len(list) != (v-1)/2 {
			t.Errorf("Make of %d: got %v, error %d", v, list, e)
		}
	}
}

// TestPassesHangOnNoNames: by other numbers of points and of blocks there are as many, and a product has as many whichever comes first.
func TestPassesHangOnNoNames(t *testing.T) {
	for _, d := range systems() {
		want, _ := triple.Passes(d)
		for start := range 3 {
			got, e := triple.Passes(strewn(d, start))
			wantNumber(t, name("Passes by other names", d), got, e, want)
		}
		for _, other := range systems() {
			one, e := triple.Product(d, other)
			if e != api.OK {
				continue
			}
			two, _ := triple.Product(other, d)
			want, _ := triple.Passes(one)
			got, e := triple.Passes(two)
			wantNumber(t, name("Passes of the Product", d), got, e, want)
		}
	}
}

// TestDoubleOfTheBooks: one point that is doubled again and again becomes the lines of a projective space, which has the most sets of four that may be; three points times themselves become those of an affine space, which has none.
func TestDoubleOfTheBooks(t *testing.T) {
	d := of(1)
	for v := 1; v <= 15; v = 2*v + 1 {
		d, _ = triple.Double(d)
		got, e := triple.Passes(d)
		n := 2*v + 1
		wantNumber(t, fmt.Sprintf("Passes of %d points, doubled again and again", n), got, e, n*(n-1)*(n-3)/24)
	}
	d, _ = triple.Product(ternary(3), ternary(3))
	d, e := triple.Product(d, ternary(3))
	if e != api.OK || d.Points != 27 {
		t.Fatalf("got %d points, error %d", d.Points, e)
	}
	want := ternary(27)
	wantDesign(t, "three times three times three", d, api.OK, want)
	got, e := triple.Passes(d)
	wantNumber(t, "Passes of 27 points", got, e, 0)
}

// TestASystemIsInIts: the double has the system among its blocks, a product has the second by its numbers, and what grows has what it grew from.
func TestASystemIsInIts(t *testing.T) {
	has := func(big, small [][]int) bool {
		return !slices.ContainsFunc(small, func(b []int) bool { return lying(big, b...) == 0 })
	}
	for _, d := range systems() {
		if big, e := triple.Double(d); e == api.OK && !has(big.Blocks, d.Blocks) {
			t.Errorf("%s has it not", name("Double", d))
		}
		if big, e := triple.Product(ternary(3), d); e == api.OK && !has(big.Blocks, d.Blocks) {
			t.Errorf("%s has it not", name("Product by three points", d))
		}
		if d.Points > 9 {
			continue
		}
		for i := range d.Blocks {
			if big, e := triple.Grow(d.Points, d.Blocks[i:]); e != api.OK || !has(big.Blocks, d.Blocks[i:]) {
				t.Errorf("%s has it not", name("Grow", d))
			}
		}
	}
}
