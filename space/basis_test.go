package space_test

import (
	"slices"
	"testing"

	"parterre/api"
	"parterre/space"
)

// TestBasisOfAllLists has S2: of a few elements, all lists of up to three rows.
func TestBasisOfAllLists(t *testing.T) {
	for _, h := range []hall{
		hallOf(numberField(2, 0), 1), hallOf(numberField(2, 1), 2), hallOf(numberField(2, 0), 3),
		hallOf(numberField(3, 0), 1), hallOf(numberField(3, 2), 2), hallOf(four(), 2), hallOf(numberField(5, 0), 1),
	} {
		for a := range h.size() {
			for b := range h.size() {
				for c := range h.size() {
					rows := [][]int{h.row(a), h.row(b), h.row(c)}
					got, e := space.Basis(h.f, h.n, rows)
					h.wantBasis(t, name("Basis", rows), got, e, h.spaceOf(rows))
				}
				rows := [][]int{h.row(a), h.row(b)}
				got, e := space.Basis(h.f, h.n, rows)
				h.wantBasis(t, name("Basis", rows), got, e, h.spaceOf(rows))
			}
			rows := [][]int{h.row(a)}
			got, e := space.Basis(h.f, h.n, rows)
			h.wantBasis(t, name("Basis", rows), got, e, h.spaceOf(rows))
		}
	}
}

// TestAllOfStrewn has S2: of all fields, each n, all faces, at strewn rows, up to 12 of them.
func TestAllOfStrewn(t *testing.T) {
	for start, h := range halls() {
		next := numbers(start)
		for _, many := range []int{0, 1, 2, h.n, next(13), 12} {
			a, b, v := h.strewn(many, next), h.strewn(next(13), next), h.row(next(h.size()))
			one, other := h.spaceOf(a), h.spaceOf(b)
			got, e := space.Basis(h.f, h.n, a)
			h.wantBasis(t, name("Basis", a), got, e, one)
			got, e = space.Join(h.f, h.n, a, b)
			h.wantBasis(t, name("Join", a, b), got, e, h.spaceOf(slices.Concat(a, b)))
			got, e = space.Meet(h.f, h.n, a, b)
			h.wantBasis(t, name("Meet", a, b), got, e, meetOf(one, other))
			got, e = space.Normal(h.f, h.n, a)
			h.wantBasis(t, name("Normal", a), got, e, h.normalOf(a))
			has, e := space.Has(h.f, h.n, a, v)
			wantBool(t, name("Has", h, a, v), has, e, one[h.place(v)], api.OK)
			if len(b) > 0 {
				has, e = space.Has(h.f, h.n, a, b[0])
				wantBool(t, name("Has", h, a, b[0]), has, e, one[h.place(b[0])], api.OK)
			}
		}
	}
}

// TestAllOfBases has S2: of each two spaces, by their bases, what is together and what is in both; of each one what is normal, and which rows it has.
func TestAllOfBases(t *testing.T) {
	for _, h := range smallHalls() {
		bases := h.allBases()
		spaces := make([][]bool, len(bases))
		for i, a := range bases {
			spaces[i] = h.spaceOf(a)
		}
		for i, a := range bases {
			got, e := space.Basis(h.f, h.n, a)
			wantRows(t, name("Basis", h, a), got, e, a, api.OK)
			got, e = space.Normal(h.f, h.n, a)
			h.wantBasis(t, name("Normal", a), got, e, h.normalOf(a))
			for v := range h.size() {
				has, e := space.Has(h.f, h.n, a, h.row(v))
				wantBool(t, name("Has", h, a, h.row(v)), has, e, spaces[i][v], api.OK)
			}
			for j, b := range bases {
				got, e = space.Join(h.f, h.n, a, b)
				h.wantBasis(t, name("Join", a, b), got, e, h.spaceOf(slices.Concat(a, b)))
				got, e = space.Meet(h.f, h.n, a, b)
				h.wantBasis(t, name("Meet", a, b), got, e, meetOf(spaces[i], spaces[j]))
			}
		}
	}
}

// TestManyRows has S2 at 12 rows in each list: rows of 0 and the same rows again make nothing more, wherever they stand.
func TestManyRows(t *testing.T) {
	for start, h := range halls() {
		next := numbers(start)
		a := h.strewn(h.n, next)
		want, _ := space.Basis(h.f, h.n, a)
		long := slices.Repeat([][]int{make([]int, h.n)}, 12)
		for i, row := range a {
			long[11-2*i], long[10-2*i] = row, h.plus(make([]int, h.n), 1+next(h.q-1), row)
		}
		got, e := space.Basis(h.f, h.n, long)
		wantRows(t, name("Basis", h, long), got, e, want, api.OK)
		got, e = space.Join(h.f, h.n, long, long)
		wantRows(t, name("Join", h, long), got, e, want, api.OK)
		got, e = space.Meet(h.f, h.n, long, long)
		wantRows(t, name("Meet", h, long), got, e, want, api.OK)
		normal, _ := space.Normal(h.f, h.n, a)
		got, e = space.Normal(h.f, h.n, long)
		wantRows(t, name("Normal", h, long), got, e, normal, api.OK)
		for _, v := range long {
			has, e := space.Has(h.f, h.n, long, v)
			wantBool(t, name("Has", h, long, v), has, e, true, api.OK)
		}
	}
}

// TestNoRows has S1's space without rows, and its opposite, all rows.
func TestNoRows(t *testing.T) {
	for _, h := range halls() {
		var all [][]int
		for c := range h.n {
			row := make([]int, h.n)
			row[c] = 1
			all = append(all, row)
		}
		zero := [][]int{make([]int, h.n)}
		for _, none := range [][][]int{nil, zero, slices.Repeat(zero, 12)} {
			got, e := space.Basis(h.f, h.n, none)
			wantRows(t, name("Basis", h, none), got, e, nil, api.OK)
			got, e = space.Normal(h.f, h.n, none)
			wantRows(t, name("Normal", h, none), got, e, all, api.OK)
			got, e = space.Join(h.f, h.n, none, all)
			wantRows(t, name("Join", h, none), got, e, all, api.OK)
			got, e = space.Meet(h.f, h.n, all, none)
			wantRows(t, name("Meet", h, none), got, e, nil, api.OK)
			has, e := space.Has(h.f, h.n, none, zero[0])
			wantBool(t, name("Has", h, none), has, e, true, api.OK)
			has, e = space.Has(h.f, h.n, none, all[h.n-1])
			wantBool(t, name("Has", h, none), has, e, false, api.OK)
		}
		got, e := space.Normal(h.f, h.n, all)
		wantRows(t, name("Normal", h, all), got, e, nil, api.OK)
		got, e = space.Meet(h.f, h.n, all, all)
		wantRows(t, name("Meet", h, all), got, e, all, api.OK)
	}
}

// TestKnownOnes were worked out by hand.
func TestKnownOnes(t *testing.T) {
	five := numberField(5, 0)
	got, e := space.Basis(five, 3, [][]int{{0, 2, 4}, {3, 1, 0}, {3, 3, 4}}) // the last is the sum of the others
	wantRows(t, "Basis", got, e, [][]int{{1, 0, 1}, {0, 1, 2}}, api.OK)
	got, e = space.Normal(five, 3, got)
	wantRows(t, "Normal", got, e, [][]int{{1, 2, 4}}, api.OK)
	got, e = space.Basis(four(), 2, [][]int{{2, 3}})
	wantRows(t, "Basis", got, e, [][]int{{1, 2}}, api.OK)
	got, e = space.Normal(four(), 2, [][]int{{2, 3}})
	wantRows(t, "Normal", got, e, [][]int{{1, 3}}, api.OK)
	two := numberField(2, 0)
	got, e = space.Meet(two, 4, [][]int{{1, 1, 0, 0}, {0, 1, 1, 0}}, [][]int{{1, 0, 1, 0}, {0, 0, 0, 1}})
	wantRows(t, "Meet", got, e, [][]int{{1, 0, 1, 0}}, api.OK)
	got, e = space.Join(two, 4, [][]int{{1, 1, 0, 0}, {0, 1, 1, 0}}, [][]int{{1, 0, 1, 0}, {0, 0, 0, 1}})
	wantRows(t, "Join", got, e, [][]int{{1, 0, 1, 0}, {0, 1, 1, 0}, {0, 0, 0, 1}}, api.OK)
	got, e = space.Normal(two, 2, [][]int{{1, 1}}) // a row may be normal to itself
	wantRows(t, "Normal", got, e, [][]int{{1, 1}}, api.OK)
}
