package plane_test

import (
	"math"
	"testing"

	"parterre/api"
	"parterre/field"
	"parterre/plane"
)

// TestMake has P2's first: each field there is of an order of at most 5.
func TestMake(t *testing.T) {
	for _, f := range smallFields() {
		got, e := plane.Make(f)
		wantDesign(t, name("Make", f), got, e, made(order(f)), api.OK)
	}
}

// TestMakeByHand has P2's first: the least whole, and of the others some blocks that were worked out on paper.
func TestMakeByHand(t *testing.T) {
	two, e := plane.Make(numberField(2, 0))
	wantDesign(t, "Make of 2", two, e, of(7, []int{1, 3, 5}, []int{0, 3, 4}, []int{2, 3, 6}, []int{0, 1, 2}, []int{1, 4, 6}, []int{0, 5, 6}, []int{2, 4, 5}), api.OK)
	for _, c := range []struct {
		f     api.Field
		block int
		want  []int
	}{
		{numberField(3, 0), 0, []int{1, 4, 7, 10}},       // z is 0
		{numberField(3, 0), 2, []int{3, 4, 9, 11}},       // y + z is 0
		{numberField(3, 0), 3, []int{2, 4, 8, 12}},       // y + 2 z is 0
		{numberField(3, 0), 12, []int{3, 5, 7, 12}},      // x + 2 y + 2 z is 0
		{four(), 0, []int{1, 5, 9, 13, 17}},              // z is 0
		{four(), 3, []int{4, 5, 12, 14, 19}},             // y + 2 z is 0: 2 times 3 is 1
		{four(), 20, []int{2, 7, 12, 13, 18}},            // x + 3 y + 3 z is 0
		{numberField(5, 0), 1, []int{0, 6, 7, 8, 9, 10}}, // y is 0
	} {
		d, e := plane.Make(c.f)
		wantList(t, name("Make", c.f), d.Blocks[c.block], e, c.want, api.OK)
	}
}

// TestConic has P2's second: each field there is of an order of at most 5.
func TestConic(t *testing.T) {
	for _, f := range smallFields() {
		got, e := plane.Conic(f)
		wantList(t, name("Conic", f), got, e, conic(order(f)), api.OK)
	}
}

// TestConicByHand has P2's second: 0 0 1, and 1 y z where z is y y.
func TestConicByHand(t *testing.T) {
	for _, c := range []struct {
		f    api.Field
		want []int
	}{
		{numberField(2, 1), []int{0, 3, 6}},
		{numberField(3, 0), []int{0, 4, 8, 11}},
		{four(), []int{0, 5, 10, 16, 19}},
		{numberField(5, 3), []int{0, 6, 12, 20, 25, 27}},
	} {
		got, e := plane.Conic(c.f)
		wantList(t, name("Conic", c.f), got, e, c.want, api.OK)
	}
}

// wrongFields have each error of P2: what the field's Check says, and then ErrFull.
func wrongFields() map[api.Errno][]api.Field {
	return map[api.Errno][]api.Field{
		api.ErrRange: {
			{},
			{Prime: 4, Degree: 1, Low: []int{0}},
			{Prime: 1, Degree: 1, Low: []int{0}},
			{Prime: -2, Degree: 1, Low: []int{0}},
			{Prime: 2, Degree: 0},
			{Prime: 5, Degree: -1},
			{Prime: 2, Degree: 7, Low: []int{1, 1, 0, 0, 0, 0, 0}},
			{Prime: 67, Degree: 1, Low: []int{0}},
			{Prime: 5, Degree: 3, Low: []int{2, 3, 0}},
			{Prime: math.MaxInt, Degree: math.MaxInt},
			{Prime: 2, Degree: math.MaxInt},
			{Prime: 2, Degree: 1, Low: []int{2}},
			{Prime: 2, Degree: 2, Low: []int{1, -1}},
			{Prime: 7, Degree: 1, Low: []int{7}},
			{Prime: 2, Degree: 6, Low: []int{1, 1, 0, 0, 0, 2}},
		},
		api.ErrShape: {
			{Prime: 2, Degree: 1},
			{Prime: 2, Degree: 2, Low: []int{1}},
			{Prime: 2, Degree: 2, Low: []int{1, 1, 0}},
			{Prime: 7, Degree: 1, Low: []int{0, 0}},
			{Prime: 2, Degree: 6, Low: []int{1, 1}},
		},
		api.ErrNone: {
			{Prime: 2, Degree: 2, Low: []int{0, 0}},
			{Prime: 2, Degree: 2, Low: []int{0, 1}},
			{Prime: 2, Degree: 2, Low: []int{1, 0}},
			{Prime: 2, Degree: 3, Low: []int{1, 1, 1}},
			{Prime: 7, Degree: 2, Low: []int{0, 0}},
			{Prime: 2, Degree: 6, Low: []int{0, 1, 0, 0, 0, 0}},
		},
		api.ErrFull: {
			{Prime: 7, Degree: 1, Low: []int{0}},
			{Prime: 7, Degree: 1, Low: []int{6}},
			{Prime: 2, Degree: 3, Low: []int{1, 1, 0}},
			{Prime: 3, Degree: 2, Low: []int{1, 0}},
			{Prime: 61, Degree: 1, Low: []int{0}},
			{Prime: 2, Degree: 6, Low: []int{1, 1, 0, 0, 0, 0}},
		},
	}
}

// TestMakeOfWrongOnes has P2's errors, of Make and of Conic, and nothing beside them (P1 of the document).
func TestMakeOfWrongOnes(t *testing.T) {
	for want, fields := range wrongFields() {
		for _, f := range fields {
			d, e := plane.Make(f)
			wantDesign(t, name("Make", f), d, e, api.Design{}, want)
			l, e := plane.Conic(f)
			wantList(t, name("Conic", f), l, e, nil, want)
		}
	}
}

// TestMakeOfAllOrders has P2: of the least field of each order just those of 2, 3, 4 and 5 are made.
func TestMakeOfAllOrders(t *testing.T) {
	some := 0
	for p := 2; p <= 64; p++ {
		q := p
		for k := 1; q <= 64; k, q = k+1, q*p {
			f, e := field.Least(p, k)
			if e != api.OK {
				continue
			}
			want, points, blocks, dots := api.ErrFull, 0, 0, 0
			if q <= 5 {
				want, points, blocks, dots = api.OK, q*q+q+1, q*q+q+1, q+1
				some++
			}
			d, e := plane.Make(f)
			if e != want || d.Points != points || len(d.Blocks) != blocks {
				t.Errorf("%s: got %v, error %d", name("Make", f), d, e)
			}
			l, e := plane.Conic(f)
			if e != want || len(l) != dots {
				t.Errorf("%s: got %v, error %d", name("Conic", f), l, e)
			}
		}
	}
	if some != 4 {
		t.Errorf("%d are made", some)
	}
}
