package strong_test

import (
	"testing"

	"parterre/api"
	"parterre/field"
	"parterre/latin"
	"parterre/strong"
)

// made are what Paley, Triangle and Latin make.
func made(t *testing.T) []api.Square {
	var out []api.Square
	keep := func(g api.Square, e api.Errno) {
		t.Helper()
		if e != api.OK {
			t.Fatalf("nothing is made: error %d", e)
		}
		out = append(out, g)
	}
	for _, f := range allFields() {
		if q := orderOf(f); q <= 24 && q%4 == 1 {
			keep(strong.Paley(f))
		}
	}
	for n := 2; n <= 7; n++ {
		keep(strong.Triangle(n))
	}
	for side := 1; side <= 4; side++ {
		for _, s := range latins(side) {
			keep(strong.Latin(s))
		}
	}
	return out
}

// strongOnes are all strong graphs of up to 6 places, and some of more.
func strongOnes(t *testing.T) []api.Square {
	out := made(t)
	for n := 1; n <= 6; n++ {
		for g := range allGraphs(n) {
			if _, e := numbersOf(g); e == api.OK {
				out = append(out, g)
			}
		}
	}
	for _, g := range some() {
		if _, e := numbersOf(g); e == api.OK {
			out = append(out, g)
		}
	}
	return out
}

// TestLawOfFits has G5: what is strong, of Degree 1 or more, fits.
func TestLawOfFits(t *testing.T) {
	for _, g := range strongOnes(t) {
		numbers, e := strong.Numbers(g)
		wantError(t, name("Numbers", g), e, api.OK)
		got, e := strong.Fits(numbers)
		if numbers.Degree == 0 {
			want(t, name("Fits", numbers), got, e, false, api.ErrRange)
		} else {
			want(t, name("Fits", numbers), got, e, true, api.OK)
		}
	}
}

// TestLawOfOther has G5: Other of what is strong is strong, its numbers follow, and Other of it is the graph again.
func TestLawOfOther(t *testing.T) {
	for _, g := range append(strongOnes(t), strewn()...) {
		other, e := strong.Other(g)
		wantError(t, name("Other", g), e, api.OK)
		again, e := strong.Other(other)
		wantSquare(t, name("Other of Other", g), again, e, g, api.OK)
	}
	for _, g := range strongOnes(t) {
		was, _ := strong.Numbers(g)
		other, _ := strong.Other(g)
		v, k := was.Places, was.Degree
		wanted := api.Strong{Places: v, Degree: v - 1 - k}
		if wanted.Degree > 0 {
			wanted.Near = v - 2 - 2*k + was.Far // two that are not joined: all but both, less what either is joined to
		}
		if k > 0 {
			wanted.Far = v - 2*k + was.Near
		}
		got, e := strong.Numbers(other)
		want(t, name("Numbers of Other", g), got, e, wanted, api.OK)
	}
}

// TestLawOfFriends has G5 (Erdos, Renyi, Sos): in all graphs of up to 6 places, where each two have just one in common, some place is joined to all, and all others are joined to two.
func TestLawOfFriends(t *testing.T) {
	many := map[int]int{}
	for n := 1; n <= 6; n++ {
		for g := range allGraphs(n) {
			rows := rowsOf(g)
			friendly := true
			for a := range n {
				for b := range a {
					friendly = friendly && len(commonOf(rows, a, b)) == 1
				}
			}
			friend, e := strong.Friend(g)
			if !friendly {
				want(t, name("Friend", g), friend, e, 0, api.ErrNone)
				continue
			}
			many[n]++
			wantError(t, name("Friend", g), e, api.OK)
			for place := range n {
				degree := len(commonOf(rows, place, place))
				if place == friend && degree != n-1 || place != friend && degree != 2 {
					t.Errorf("Friend of %v: got %d, but %d is joined to %d", g, friend, place, degree)
				}
			}
		}
	}
	for n, wanted := range []int{1: 1, 3: 1, 5: 15, 6: 0} {
		if many[n] != wanted {
			t.Errorf("%d places: in %d graphs have each two just one in common, want %d", n, many[n], wanted)
		}
	}
}

// TestLawOfMade has G5: what is made is strong; its numbers as books have them.
func TestLawOfMade(t *testing.T) {
	for _, g := range made(t) {
		_, e := strong.Numbers(g)
		wantError(t, name("Numbers", g), e, api.OK)
	}
	for _, f := range allFields() {
		if q := orderOf(f); q <= 24 && q%4 == 1 {
			g, _ := strong.Paley(f)
			got, e := strong.Numbers(g)
			want(t, name("Numbers of Paley", f), got, e, api.Strong{Places: q, Degree: (q - 1) / 2, Near: (q - 5) / 4, Far: (q - 1) / 4}, api.OK)
		}
	}
	for n := 4; n <= 7; n++ {
		g, _ := strong.Triangle(n)
		got, e := strong.Numbers(g)
		want(t, name("Numbers of Triangle", n), got, e, api.Strong{Places: n * (n - 1) / 2, Degree: 2 * (n - 2), Near: n - 2, Far: 4}, api.OK)
	}
	for n := 3; n <= 4; n++ {
		for _, s := range latins(n) {
			g, _ := strong.Latin(s)
			got, e := strong.Numbers(g)
			want(t, name("Numbers of Latin", s), got, e, api.Strong{Places: n * n, Degree: 3 * (n - 1), Near: n, Far: 6}, api.OK)
		}
	}
}

// TestLawOfPaley follows from G3: times what is no square, what is joined is what was not.
func TestLawOfPaley(t *testing.T) {
	for _, f := range allFields() {
		q := orderOf(f)
		if q > 24 || q%4 != 1 {
			continue
		}
		root, _ := field.Root(f)
		var order []int
		for a := range q {
			times, _ := field.Mul(f, a, root)
			order = append(order, times)
		}
		g, _ := strong.Paley(f)
		got, e := strong.Other(g)
		wantSquare(t, name("Other of Paley", f), got, e, renamed(g, order), api.OK)
	}
}

// TestLawOfConjugates follows from G3: whichever of rows, columns and numbers are taken for which, as many cells are joined; with other numbers for numbers the same ones are.
func TestLawOfConjugates(t *testing.T) {
	for side := 1; side <= 4; side++ {
		for i, s := range latins(side) {
			wanted, _ := strong.Latin(s)
			order := strewnOrder(side, numbers(i))
			other := clone(s)
			for place, x := range other.Cells {
				other.Cells[place] = order[x]
			}
			got, e := strong.Latin(other)
			wantSquare(t, name("Latin", other), got, e, wanted, api.OK)
			numbers, _ := strong.Numbers(wanted)
			for k := range 6 {
				turned, _ := latin.Conjugate(s, k)
				g, _ := strong.Latin(turned)
				got, e := strong.Numbers(g)
				want(t, name("Numbers of Latin of Conjugate", s, k), got, e, numbers, api.OK)
			}
		}
	}
}
