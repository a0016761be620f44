package group_test

import (
	"slices"
	"testing"

	"parterre/group"
)

// TestKnown has G3 of groups that books tell all of.
func TestKnown(t *testing.T) {
	for _, k := range known() {
		deep, e := group.Deep(k.n, k.makers)
		wantNumber(t, "Deep "+k.name, deep, e, k.deep)
		primitive, e := group.Primitive(k.n, k.makers)
		wantBool(t, "Primitive "+k.name, primitive, e, k.primitive)
		centre, e := group.Centre(k.n, k.makers)
		wantNumber(t, "Centre "+k.name, centre, e, k.centre)
		derived, e := group.Derived(k.n, k.makers)
		wantNumber(t, "Derived "+k.name, derived, e, k.derive)
		fixed, e := group.Fixed(k.n, k.makers)
		wantList(t, "Fixed "+k.name, fixed, e, k.fixed)
	}
}

// rows gives all rows of t points of n, all unlike.
func rows(n, t int) [][]int {
	if t == 0 {
		return [][]int{nil}
	}
	var out [][]int
	for _, head := range rows(n, t-1) {
		for p := range n {
			if !slices.Contains(head, p) {
				out = append(out, append(slices.Clone(head), p))
			}
		}
	}
	return out
}

// everywhere: is each of these rows moved to each?
func everywhere(in, rows [][]int) bool {
	for _, row := range rows {
		met := map[int]int{}
		for _, a := range in {
			code := 0
			for _, p := range row {
				code = code*8 + a[p]
			}
			met[code]++
		}
		if len(met) < len(rows) {
			return false
		}
	}
	return true
}

// TestDeep has G3, from the greatest t down.
func TestDeep(t *testing.T) {
	for _, m := range few() {
		in := members(m.n, m.makers)
		want := m.n
		for !everywhere(in, rows(m.n, want)) {
			want--
		}
		got, e := group.Deep(m.n, m.makers)
		wantNumber(t, name("Deep", m), got, e, want)
	}
}

// cuts gives all cuts of n points into lists: of each point the number of its list.
func cuts(n int) [][]int {
	if n == 0 {
		return [][]int{nil}
	}
	var out [][]int
	for _, c := range cuts(n - 1) {
		lists := 0
		if len(c) > 0 {
			lists = slices.Max(c) + 1
		}
		for list := range lists + 1 {
			out = append(out, append(slices.Clone(c), list))
		}
	}
	return out
}

// keeps: does each move of the group bring lists to lists?
func keeps(in [][]int, cut []int) bool {
	for _, a := range in {
		for p := range cut {
			for q := range p {
				if (cut[p] == cut[q]) != (cut[a[p]] == cut[a[q]]) {
					return false
				}
			}
		}
	}
	return true
}

// primitive goes by the words of G3, through all cuts.
func primitive(n int, in [][]int) bool {
	if n < 2 || len(reached(in, 0)) < n {
		return false
	}
	for _, cut := range cuts(n) {
		lists := slices.Max(cut) + 1
		if lists > 1 && lists < n && keeps(in, cut) {
			return false
		}
	}
	return true
}

// TestPrimitive has G3.
func TestPrimitive(t *testing.T) {
	if len(cuts(4)) != 15 || len(cuts(7)) != 877 {
		t.Fatalf("got %d and %d cuts", len(cuts(4)), len(cuts(7)))
	}
	for _, m := range few() {
		got, e := group.Primitive(m.n, m.makers)
		wantBool(t, name("Primitive", m), got, e, primitive(m.n, members(m.n, m.makers)))
	}
}

// TestPrimitiveOfTurns has G3: turns are primitive just if there is a prime number of points, whatever their names.
func TestPrimitiveOfTurns(t *testing.T) {
	for n := 1; n <= 7; n++ {
		for start := range 20 {
			c := mixed(n, start)
			makers := [][]int{then(then(undone(c), turn(n)), c)}
			got, e := group.Primitive(n, makers)
			wantBool(t, name("Primitive", maker{n, makers}), got, e, n == 2 || n == 3 || n == 5 || n == 7)
		}
	}
}

// TestCentre has G3, with each of the group.
func TestCentre(t *testing.T) {
	for _, m := range few() {
		in := members(m.n, m.makers)
		want := 0
		for _, a := range in {
			if !slices.ContainsFunc(in, func(b []int) bool { return !slices.Equal(then(a, b), then(b, a)) }) {
				want++
			}
		}
		got, e := group.Centre(m.n, m.makers)
		wantNumber(t, name("Centre", m), got, e, want)
	}
}

// TestDerived has G3, with the commutators of all pairs.
func TestDerived(t *testing.T) {
	for _, m := range few() {
		in := members(m.n, m.makers)
		met := map[int]bool{}
		var commutators [][]int
		for _, a := range in {
			for _, b := range in {
				c := then(then(then(undone(a), undone(b)), a), b)
				if !met[rank(c)] {
					met[rank(c)] = true
					commutators = append(commutators, c)
				}
			}
		}
		got, e := group.Derived(m.n, m.makers)
		wantNumber(t, name("Derived", m), got, e, len(members(m.n, commutators)))
	}
}

// TestFixed has G3.
func TestFixed(t *testing.T) {
	for _, m := range some() {
		want := make([]int, m.n+1)
		for _, a := range members(m.n, m.makers) {
			stays := 0
			for p, to := range a {
				if p == to {
					stays++
				}
			}
			want[stays]++
		}
		got, e := group.Fixed(m.n, m.makers)
		wantList(t, name("Fixed", m), got, e, want)
	}
}
