package group_test

import (
	"math"
	"slices"
	"testing"

	"parterre/api"
	"parterre/group"
)

// TestOrder has G1 and G2: all that the makers make is counted, what moves nothing too.
func TestOrder(t *testing.T) {
	for _, m := range some() {
		got, e := group.Order(m.n, m.makers)
		wantNumber(t, name("Order", m), got, e, len(members(m.n, m.makers)))
	}
	for _, k := range known() {
		got, e := group.Order(k.n, k.makers)
		wantNumber(t, "Order "+k.name, got, e, k.order)
	}
}

// TestNoMakers has the edge of G1: what moves nothing is in it, and nothing else; of nil as of an empty list (P4).
func TestNoMakers(t *testing.T) {
	for n := 1; n <= api.MaxMoved; n++ {
		for _, makers := range [][][]int{nil, {}, {stay(n)}, {stay(n), stay(n), stay(n), stay(n)}} {
			m := maker{n, makers}
			got, e := group.Order(n, makers)
			wantNumber(t, name("Order", m), got, e, 1)
			wantList(t, name("Element", m), element(t, m, 0), api.OK, stay(n))
			wantHas(t, m, stay(n), true)
			if n > 1 {
				wantHas(t, m, turn(n), false)
			}
			got, e = group.Centre(n, makers)
			wantNumber(t, name("Centre", m), got, e, 1)
			got, e = group.Derived(n, makers)
			wantNumber(t, name("Derived", m), got, e, 1)
			fixed, e := group.Fixed(n, makers)
			wantList(t, name("Fixed", m), fixed, e, append(make([]int, n), 1))
			lists, e := group.Orbits(n, makers)
			if e != api.OK || len(lists) != n || !slices.Equal(slices.Concat(lists...), stay(n)) {
				t.Errorf("%s: got %v, error %d", name("Orbits", m), lists, e)
			}
		}
	}
}

func wantHas(t *testing.T, m maker, a []int, want bool) {
	t.Helper()
	if got, e := group.Has(m.n, m.makers, a); got != want || e != api.OK {
		t.Errorf("%s of %v: got %t, error %d", name("Has", m), a, got, e)
	}
}

// TestHas has G2, asked of all permutations of few points.
func TestHas(t *testing.T) {
	for _, m := range small() {
		in := members(m.n, m.makers)
		for _, a := range all(m.n) {
			want := slices.ContainsFunc(in, func(b []int) bool { return slices.Equal(a, b) })
			wantHas(t, m, a, want)
		}
	}
	wantHas(t, maker{4, [][]int{{1, 2, 3, 0}, {2, 1, 0, 3}}}, []int{1, 0, 2, 3}, false)
}

// TestHasOfMany has G2 on 7 points: even ones, all, and those that keep a plane.
func TestHasOfMany(t *testing.T) {
	even := maker{7, [][]int{turn(7), {1, 2, 0, 3, 4, 5, 6}}}
	every := maker{7, [][]int{turn(7), {1, 0, 2, 3, 4, 5, 6}}}
	for start := range 30 {
		a := mixed(7, start)
		wantHas(t, every, a, true)
		wantHas(t, even, a, odd(a)%2 == 0)
	}
	plane := maker{7, [][]int{turn(7), {0, 2, 4, 6, 1, 3, 5}, {0, 1, 6, 3, 5, 4, 2}}}
	wantHas(t, plane, []int{0, 1, 6, 3, 5, 4, 2}, true)
	wantHas(t, plane, []int{0, 2, 1, 6, 4, 5, 3}, true)
	wantHas(t, plane, []int{1, 0, 2, 3, 4, 5, 6}, false)
	wantHas(t, plane, []int{0, 1, 6, 3, 4, 5, 2}, false)
}

// odd counts pairs of points that are turned round.
func odd(a []int) int {
	out := 0
	for i := range a {
		for j := range i {
			if a[j] > a[i] {
				out++
			}
		}
	}
	return out
}

// TestElement has G2: all of the group, in order, and none behind the last.
func TestElement(t *testing.T) {
	for _, m := range few() {
		in := members(m.n, m.makers)
		for k, a := range in {
			got, e := group.Element(m.n, m.makers, k)
			wantList(t, name("Element", m), got, e, a)
		}
		wantNoElement(t, m, len(in))
	}
	if got := element(t, maker{4, [][]int{{1, 2, 3, 0}, {2, 1, 0, 3}}}, 1); !slices.Equal(got, []int{0, 3, 2, 1}) {
		t.Errorf("got %v", got)
	}
}

func wantNoElement(t *testing.T, m maker, above int) {
	t.Helper()
	for _, k := range []int{above, above + 1, 1 << 32, math.MaxInt, -1, -2, -1 << 32, math.MinInt} {
		if got, e := group.Element(m.n, m.makers, k); e != api.ErrRange || len(got) != 0 {
			t.Errorf("%s of %d: got %v, error %d", name("Element", m), k, got, e)
		}
	}
}

// TestAll has what Element gives one by one.
func TestAll(t *testing.T) {
	for _, m := range some() {
		got, e := group.All(m.n, m.makers)
		if e != api.OK || !slices.EqualFunc(got, members(m.n, m.makers), slices.Equal) {
			t.Errorf("%s: got %d, error %d", name("All", m), len(got), e)
		}
	}
}

// TestElementOfMany has G2 on 7 points: of all permutations the rank is the number.
func TestElementOfMany(t *testing.T) {
	every := maker{7, [][]int{turn(7), {1, 0, 2, 3, 4, 5, 6}}}
	for k := 0; k < 5040; k += 97 {
		if got := element(t, every, k); rank(got) != k {
			t.Errorf("%d: got %v", k, got)
		}
	}
	wantList(t, "the last", element(t, every, 5039), api.OK, []int{6, 5, 4, 3, 2, 1, 0})
	wantNoElement(t, every, 5040)
	even := maker{7, [][]int{turn(7), {1, 2, 0, 3, 4, 5, 6}}}
	for k := 0; k < 2520; k += 83 {
		// Of each two that part only in their last two numbers one is even.
		if got := element(t, even, k); rank(got)/2 != k || odd(got)%2 != 0 {
			t.Errorf("%d: got %v", k, got)
		}
	}
	wantNoElement(t, even, 2520)
}

// TestOrbits has G2: each point is told by the one list of all that it is moved to.
func TestOrbits(t *testing.T) {
	for _, m := range some() {
		in := members(m.n, m.makers)
		var want [][]int
		for p := range m.n {
			list := reached(in, p)
			if list[0] == p {
				want = append(want, list)
			}
		}
		got, e := group.Orbits(m.n, m.makers)
		if e != api.OK || !slices.EqualFunc(got, want, slices.Equal) {
			t.Errorf("%s: got %v, error %d; want %v", name("Orbits", m), got, e, want)
		}
	}
}

// reached gives the points that p is moved to, rising.
func reached(in [][]int, p int) []int {
	var out []int
	for _, a := range in {
		out = append(out, a[p])
	}
	slices.Sort(out)
	return slices.Compact(out)
}

// TestOrbitsInOrder has G2 where the lists lie across one another.
func TestOrbitsInOrder(t *testing.T) {
	for _, c := range []struct {
		makers [][]int
		want   [][]int
	}{
		{[][]int{{6, 1, 5, 3, 4, 2, 0}}, [][]int{{0, 6}, {1}, {2, 5}, {3}, {4}}},
		{[][]int{{5, 1, 2, 3, 4, 0, 6}, {0, 1, 2, 3, 4, 6, 5}, {0, 4, 2, 3, 1, 5, 6}}, [][]int{{0, 5, 6}, {1, 4}, {2}, {3}}},
		{[][]int{{0, 6, 2, 3, 4, 5, 1}, {0, 1, 3, 2, 4, 5, 6}, {0, 1, 2, 6, 4, 5, 3}, {4, 1, 2, 3, 0, 5, 6}}, [][]int{{0, 4}, {1, 2, 3, 6}, {5}}},
		{[][]int{turn(7)}, [][]int{{0, 1, 2, 3, 4, 5, 6}}},
	} {
		got, e := group.Orbits(7, c.makers)
		if e != api.OK || !slices.EqualFunc(got, c.want, slices.Equal) {
			t.Errorf("Orbits of %v: got %v, error %d; want %v", c.makers, got, e, c.want)
		}
	}
}

// TestMakersInAnyOrder has G1: what is made hangs neither on the order of the makers nor on one that stands there twice.
func TestMakersInAnyOrder(t *testing.T) {
	for start := range 20 {
		a, b, c := mixed(5, start), mixed(5, 40+start), stay(5)
		one, other := maker{5, [][]int{a, b}}, maker{5, [][]int{b, c, a, b}}
		if order(t, one) != order(t, other) {
			t.Errorf("%v and %v: got %d and %d", one, other, order(t, one), order(t, other))
		}
		last := order(t, one) - 1
		wantList(t, name("Element", other), element(t, other, last), api.OK, element(t, one, last))
	}
}
