package group_test

import (
	"testing"

	"parterre/api"
	"parterre/group"
)

// many gives some groups, and such that are made of many makers of 6 and 7 points, which are often all or the even ones.
func many() []maker {
	out := some()
	for start := range 12 {
		for n := 6; n <= api.MaxMoved; n++ {
			a, b := mixed(n, start), mixed(n, 800+start)
			out = append(out, maker{n, [][]int{a, b}}, maker{n, [][]int{then(a, a), then(b, b)}}, maker{n, [][]int{a, b, then(a, b), undone(a)}})
		}
	}
	return out
}

// TestLagrange has G4: the order divides the factorial, and that of a group made of some divides that of all.
func TestLagrange(t *testing.T) {
	for _, m := range many() {
		whole := order(t, m)
		if factorial(m.n)%whole != 0 {
			t.Errorf("%s: got %d", name("Order", m), whole)
		}
		for i := range m.makers {
			part := maker{m.n, m.makers[i:]}
			if whole%order(t, part) != 0 {
				t.Errorf("%s: got %d, and %d of all", name("Order", part), order(t, part), whole)
			}
		}
		derived, e1 := group.Derived(m.n, m.makers)
		centre, e2 := group.Centre(m.n, m.makers)
		if e1 != api.OK || e2 != api.OK || derived < 1 || centre < 1 || whole%derived != 0 || whole%centre != 0 {
			t.Errorf("%v: got order %d, derived %d, centre %d", m, whole, derived, centre)
		}
		// What minds no order has no commutators, and the other way round.
		if (derived == 1) != (centre == whole) {
			t.Errorf("%v: got order %d, derived %d, centre %d", m, whole, derived, centre)
		}
	}
}

// TestBurnside has G4: points that stay, counted over the group, are the order times the orbits.
func TestBurnside(t *testing.T) {
	for _, m := range many() {
		fixed, e1 := group.Fixed(m.n, m.makers)
		lists, e2 := group.Orbits(m.n, m.makers)
		if e1 != api.OK || e2 != api.OK || len(fixed) != m.n+1 {
			t.Fatalf("%v: got %v, error %d, and error %d", m, fixed, e1, e2)
		}
		stays, sum := 0, 0
		for k, number := range fixed {
			stays += k * number
			sum += number
		}
		if stays != order(t, m)*len(lists) || sum != order(t, m) {
			t.Errorf("%v: order %d, fixed %v, orbits %v", m, order(t, m), fixed, lists)
		}
	}
}

// TestDeepIsPrimitive has G4, and that 1 Deep says that there is one orbit.
func TestDeepIsPrimitive(t *testing.T) {
	met := 0
	for _, m := range many() {
		deep, e := group.Deep(m.n, m.makers)
		if e != api.OK {
			t.Fatalf("%s: error %d", name("Deep", m), e)
		}
		lists, _ := group.Orbits(m.n, m.makers)
		if (deep >= 1) != (len(lists) == 1) {
			t.Errorf("%v: %d deep, orbits %v", m, deep, lists)
		}
		if deep < 2 {
			continue
		}
		met++
		primitive, e := group.Primitive(m.n, m.makers)
		wantBool(t, name("Primitive", m), primitive, e, true)
	}
	if met < 100 {
		t.Errorf("only %d groups are 2 or more deep", met)
	}
}

// TestClosed has G1: what is composed of two of a group, and what undoes one, is in it.
func TestClosed(t *testing.T) {
	for _, m := range known() {
		g := maker{m.n, m.makers}
		step := m.order/7 + 1
		for i := 0; i < m.order; i += step {
			a := element(t, g, i)
			wantHas(t, g, undone(a), true)
			for j := 0; j < m.order; j += step {
				wantHas(t, g, then(a, element(t, g, j)), true)
			}
		}
	}
}
