package array_test

import (
	"testing"

	"parterre/api"
	"parterre/array"
	"parterre/field"
	"parterre/latin"
	"parterre/space"
)

// wantRao holds runs against the bound, and tells whether they are just as many.
func wantRao(t *testing.T, s int, runs [][]int) bool {
	t.Helper()
	strength, e := array.Strength(s, runs)
	wantError(t, name("Strength", s, runs), e, api.OK)
	bound, e := array.Rao(len(runs[0]), s, strength)
	if e != api.OK || len(runs) < bound {
		t.Errorf("%d runs of strength %d: Rao of %d %d says %d, error %d", len(runs), strength, len(runs[0]), s, bound, e)
	}
	return len(runs) == bound
}

// TestLawOfRao has A4 (Rao): runs are as many as the bound, or more; some are just as many.
func TestLawOfRao(t *testing.T) {
	just := 0
	for _, k := range some() {
		if wantRao(t, k.s, k.runs) {
			just++
		}
	}
	for i, h := range halls() {
		next := numbers(i)
		for many := range 4 {
			if runs, e := array.Linear(h.f, h.n, h.strewn(many, next)); e == api.OK && wantRao(t, h.q, runs) {
				just++
			}
		}
	}
	if just == 0 {
		t.Error("none are just as many")
	}
}

// wantOrthogonal holds the strength of squares, of a side from 2 on, against chapter 6.
func wantOrthogonal(t *testing.T, list ...api.Square) int {
	t.Helper()
	each := true
	for i, a := range list {
		for _, b := range list[:i] {
			told, e := latin.Orthogonal(a, b)
			wantError(t, "Orthogonal", e, api.OK)
			if told != orthogonal(a, b) {
				t.Errorf("Orthogonal of %v, %v: got %t", a, b, told)
			}
			each = each && told
		}
	}
	runs, e := array.Squares(list)
	wantError(t, name("Squares", list), e, api.OK)
	strength, e := array.Strength(list[0].Side, runs)
	wantError(t, name("Strength of Squares", list), e, api.OK)
	if (strength == 2) != each || strength < 1 || strength > 2 {
		t.Errorf("Squares of %v: strength %d, each two orthogonal: %t", list, strength, each)
	}
	return strength
}

// TestLawOfSquares has A4: Squares have a Strength of 2 just if each two are orthogonal.
func TestLawOfSquares(t *testing.T) {
	found := map[int]int{}
	for side := 2; side <= 4; side++ {
		all := latins(side)
		for i, a := range all {
			found[wantOrthogonal(t, a)]++
			for j := range min(len(all), 24) {
				found[wantOrthogonal(t, a, all[(i*7+j*31)%len(all)])]++
			}
		}
	}
	next := numbers(5)
	for side := 2; side <= 8; side++ {
		for many := 1; many <= 6; many++ {
			for range 10 {
				found[wantOrthogonal(t, strewnSquares(side, many, next)...)]++
			}
		}
	}
	if found[1] == 0 || found[2] == 0 {
		t.Errorf("not each strength: %v", found)
	}
}

// TestLawOfBose has A4: the squares that a field makes, up to 6 of them, have a Strength of 2, and no more if one stands twice.
func TestLawOfBose(t *testing.T) {
	for _, order := range [][2]int{{3, 1}, {2, 2}, {5, 1}, {7, 1}, {2, 3}} {
		f, e := field.Least(order[0], order[1])
		wantError(t, "Least", e, api.OK)
		var list []api.Square
		for a := 1; a < orderOf(f) && len(list) < 6; a++ {
			s, e := latin.Made(f, a)
			wantError(t, "Made", e, api.OK)
			list = append(list, s)
			if got := wantOrthogonal(t, list...); got != 2 {
				t.Errorf("%v: %d squares have strength %d", f, len(list), got)
			}
		}
		list[0] = list[len(list)-1]
		if got := wantOrthogonal(t, list...); got != 1 {
			t.Errorf("%v: with one twice they have strength %d", f, got)
		}
	}
}

// leastOf is how many numbers but 0 stand, at least, in a row but 0 of a space that has one.
func (h hall) leastOf(rows [][]int) int {
	least := h.n
	for _, row := range h.spaceOf(rows)[1:] {
		many := 0
		for _, x := range row {
			if x != 0 {
				many++
			}
		}
		least = min(least, many)
	}
	return least
}

// TestLawOfLinear has A4 (Bose; Delsarte): the strength hangs on what is normal.
func TestLawOfLinear(t *testing.T) {
	found := map[int]int{}
	for i, h := range halls() {
		next := numbers(i)
		for many := range 5 {
			rows := h.strewn(many, next)
			runs, e := array.Linear(h.f, h.n, rows)
			if e != api.OK {
				continue
			}
			normal, e := space.Normal(h.f, h.n, rows)
			wantError(t, "Normal", e, api.OK)
			want := h.n
			if len(normal) > 0 {
				want = h.leastOf(normal) - 1
			}
			got, e := array.Strength(h.q, runs)
			wantNumber(t, name("Strength of Linear", h.f, h.n, rows), got, e, want, api.OK)
			found[got]++
		}
	}
	for strength := range 5 {
		if found[strength] == 0 {
			t.Errorf("none has strength %d", strength)
		}
	}
}

// TestLawOfCutting follows from A2: without a column the strength is no less, as far as there are columns; of one level it is at most one less, and there are as many runs of each.
func TestLawOfCutting(t *testing.T) {
	for _, k := range books() {
		width := len(k.runs[0])
		for column := range width {
			if width == 1 || k.strength == 0 {
				continue
			}
			dropped, e := array.Drop(k.s, k.runs, column)
			wantError(t, name("Drop", k.name), e, api.OK)
			got, e := array.Strength(k.s, dropped)
			if e != api.OK || got < min(k.strength, width-1) {
				t.Errorf("%s: strength %d, without column %d %d, error %d", k.name, k.strength, column, got, e)
			}
			for level := range k.s {
				taken, e := array.Take(k.s, k.runs, column, level)
				wantError(t, name("Take", k.name), e, api.OK)
				got, e := array.Strength(k.s, taken)
				if e != api.OK || got < k.strength-1 || len(taken)*k.s != len(k.runs) {
					t.Errorf("%s: strength %d, of level %d in column %d %d, error %d", k.name, k.strength, level, column, got, e)
				}
			}
		}
	}
}
