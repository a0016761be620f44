package space_test

import (
	"math"
	"slices"
	"testing"

	"parterre/api"
	"parterre/field"
	"parterre/space"
)

// face is a call by its name: how many lists of rows it takes, and how much it tells of them.
type face struct {
	name  string
	lists int
	row   bool // it takes a row beside the list
	call  func(f api.Field, n int, a, b [][]int, v []int) (int, api.Errno)
}

// faces tell how long a list is, or 1 for true.
func faces() []face {
	return []face{
		{"Basis", 1, false, func(f api.Field, n int, a, _ [][]int, _ []int) (int, api.Errno) {
			l, e := space.Basis(f, n, a)
			return len(l), e
		}},
		{"Join", 2, false, func(f api.Field, n int, a, b [][]int, _ []int) (int, api.Errno) {
			l, e := space.Join(f, n, a, b)
			return len(l), e
		}},
		{"Meet", 2, false, func(f api.Field, n int, a, b [][]int, _ []int) (int, api.Errno) {
			l, e := space.Meet(f, n, a, b)
			return len(l), e
		}},
		{"Normal", 1, false, func(f api.Field, n int, a, _ [][]int, _ []int) (int, api.Errno) {
			l, e := space.Normal(f, n, a)
			return len(l), e
		}},
		{"Has", 1, true, func(f api.Field, n int, a, _ [][]int, v []int) (int, api.Errno) {
			has, e := space.Has(f, n, a, v)
			if has {
				return 1, e
			}
			return 0, e
		}},
	}
}

// badFields have each error of F1.
func badFields() []api.Field {
	return []api.Field{
		{}, {Prime: 4, Degree: 1, Low: []int{0}}, {Prime: 2, Degree: 0}, {Prime: 2, Degree: 7, Low: []int{1, 1, 0, 0, 0, 0, 0}},
		{Prime: 67, Degree: 1, Low: []int{0}}, {Prime: -3, Degree: 1, Low: []int{0}}, {Prime: 3, Degree: -1}, {Prime: math.MaxInt, Degree: math.MaxInt},
		{Prime: 3, Degree: 1, Low: []int{3}}, {Prime: 3, Degree: 1, Low: []int{-1}},
		{Prime: 2, Degree: 1}, {Prime: 2, Degree: 3, Low: []int{1, 1}}, {Prime: 5, Degree: 1, Low: []int{1, 1}},
		{Prime: 2, Degree: 2, Low: []int{1, 0}}, {Prime: 5, Degree: 2, Low: []int{1, 0}}, {Prime: 2, Degree: 6, Low: []int{0, 0, 0, 0, 0, 0}},
	}
}

// TestFieldFirst has S1's first: what field says, whatever else is wrong, and nothing beside it.
func TestFieldFirst(t *testing.T) {
	lists := [][][]int{nil, {{1}}, {{1, 0}, {0, 1}}, {{9, 9}}, {nil}, make([][]int, 13)}
	for _, f := range badFields() {
		want := field.Check(f)
		if want == api.OK {
			t.Fatalf("%v is a field", f)
		}
		for _, n := range []int{2, 1, 0, 6, 7, -1, math.MinInt, math.MaxInt} {
			for _, c := range faces() {
				for i, a := range lists {
					got, e := c.call(f, n, a, lists[len(lists)-1-i], []int{1, 0})
					wantNumber(t, name(c.name, f, n, a), got, e, 0, want)
				}
			}
		}
	}
}

// TestPlaces has S1's bounds of n: of all fields, each n; there are no rows.
func TestPlaces(t *testing.T) {
	for _, f := range fields() {
		for _, n := range []int{math.MinInt, -1 << 32, -6, -1, 0, 1, 2, 3, 4, 5, 6, 7, 8, 12, 63, 64, 1<<32 + 1, math.MaxInt} {
			want := api.OK
			if n < 1 || n > 6 {
				want = api.ErrRange
			} else if power(orderOf(f), n) > 4096 {
				want = api.ErrFull
			}
			for _, c := range faces() {
				told, v := 0, []int(nil)
				if want == api.OK {
					told, v = map[string]int{"Normal": n, "Has": 1}[c.name], make([]int, n)
				}
				got, e := c.call(f, n, nil, nil, v)
				wantNumber(t, name(c.name, f, n), got, e, told, want)
			}
		}
	}
}

// TestBoundsOfN has S1's bounds by number: the greatest n of each order.
func TestBoundsOfN(t *testing.T) {
	greatest := map[int]int{2: 6, 3: 6, 4: 6, 5: 5, 7: 4, 8: 4, 9: 3, 11: 3, 13: 3, 16: 3}
	for _, f := range fields() {
		want, few := greatest[orderOf(f)]
		if !few {
			want = 2
		}
		for n := 1; n <= 6; n++ {
			if _, e := space.Basis(f, n, nil); (e == api.OK) != (n <= want) || e != api.OK && e != api.ErrFull {
				t.Errorf("%v, n %d: error %d", f, n, e)
			}
		}
	}
}

// wrongRows is a list of rows of three elements, and what is wrong with it, if the field has 4.
type wrongRows struct {
	rows [][]int
	want api.Errno
}

// wrongLists have each error of rows; where several apply, the one that is said first.
func wrongLists() []wrongRows {
	good := slices.Repeat([][]int{{1, 2, 3}, {0, 0, 0}, {3, 3, 3}, {0, 1, 0}}, 3)
	with := func(place int, rows ...[]int) [][]int {
		out := slices.Clone(good)
		copy(out[place:], rows)
		return out
	}
	return []wrongRows{
		{slices.Concat(good, good[:1]), api.ErrFull},
		{slices.Concat(good, [][]int{nil}), api.ErrFull},
		{slices.Concat(good, [][]int{{9, 9, 9}}), api.ErrFull},
		{slices.Concat([][]int{nil}, good), api.ErrFull},
		{slices.Concat([][]int{{0, 0, 4}}, good), api.ErrFull},
		{make([][]int, 13), api.ErrFull},
		{make([][]int, 1_000), api.ErrFull},
		{make([][]int, 12), api.ErrShape},
		{[][]int{nil}, api.ErrShape},
		{[][]int{{}}, api.ErrShape},
		{[][]int{{1}}, api.ErrShape},
		{[][]int{{1, 0}}, api.ErrShape},
		{[][]int{{1, 0, 0, 0}}, api.ErrShape},
		{[][]int{{-1, 4}}, api.ErrShape},
		{[][]int{{-1, 4, 9, 9}}, api.ErrShape},
		{[][]int{make([]int, 1_000)}, api.ErrShape},
		{with(11, []int{1, 2}), api.ErrShape},
		{with(11, []int{1, 2, 3, 0}), api.ErrShape},
		{with(4, []int{1, 2}, []int{1, 2, 4}), api.ErrShape},
		{with(0, []int{1, 2, 3, 3}, []int{-1, 2, 3}), api.ErrShape},
		{[][]int{{0, 0, 4}}, api.ErrRange},
		{[][]int{{4, 0, 0}}, api.ErrRange},
		{[][]int{{0, -1, 0}}, api.ErrRange},
		{[][]int{{math.MaxInt, 0, 0}}, api.ErrRange},
		{[][]int{{0, 0, math.MinInt}}, api.ErrRange},
		{[][]int{{0, 1 << 32, 0}}, api.ErrRange},
		{with(11, []int{1, 4, 3}), api.ErrRange},
		{with(4, []int{1, 2, 4}, []int{1, 2}), api.ErrRange},
		{with(0, []int{1, -2, 0}, []int{1, 1, 1, 1}), api.ErrRange},
	}
}

// TestRows has S1's errors of rows: of the first list, then of the second, and of Has's row last.
func TestRows(t *testing.T) {
	seconds := [][][]int{nil, {{1, 1, 1}}, {{0, 9, 0}}, {{1}}, make([][]int, 13)}
	for _, w := range wrongLists() {
		for _, c := range faces() {
			for _, b := range seconds {
				for _, v := range [][]int{{0, 0, 0}, {0, 0, 4}, {0}, nil} {
					got, e := c.call(four(), 3, w.rows, b, v)
					wantNumber(t, name(c.name, w.rows, b, v), got, e, 0, w.want)
				}
			}
			if c.lists == 2 {
				got, e := c.call(four(), 3, [][]int{{1, 2, 3}}, w.rows, nil)
				wantNumber(t, name(c.name, "a good one", w.rows), got, e, 0, w.want)
				got, e = c.call(four(), 3, nil, w.rows, nil)
				wantNumber(t, name(c.name, "none", w.rows), got, e, 0, w.want)
			}
		}
	}
}

// TestRowOfHas has S2's last: the errors of a row, behind those of the rows.
func TestRowOfHas(t *testing.T) {
	for _, rows := range [][][]int{nil, {{1, 2, 3}}, slices.Repeat([][]int{{3, 2, 1}}, 12)} {
		for _, w := range wrongLists() {
			if len(w.rows) != 1 {
				continue
			}
			has, e := space.Has(four(), 3, rows, w.rows[0])
			wantBool(t, name("Has", rows, w.rows[0]), has, e, false, w.want)
		}
	}
}

// TestRowsAndPlaces has S1's order: n, and the power, are looked at ahead of rows.
func TestRowsAndPlaces(t *testing.T) {
	for _, w := range wrongLists() {
		for _, c := range faces() {
			got, e := c.call(four(), 7, w.rows, w.rows, nil)
			wantNumber(t, name(c.name, 7, w.rows), got, e, 0, api.ErrRange)
			got, e = c.call(four(), 0, w.rows, w.rows, nil)
			wantNumber(t, name(c.name, 0, w.rows), got, e, 0, api.ErrRange)
			got, e = c.call(numberField(61, 0), 3, w.rows, w.rows, nil)
			wantNumber(t, name(c.name, 61, w.rows), got, e, 0, api.ErrFull)
			got, e = c.call(numberField(61, 0), 7, w.rows, w.rows, nil)
			wantNumber(t, name(c.name, 61, 7, w.rows), got, e, 0, api.ErrRange)
		}
	}
}

// TestElements has S1's elements: of all fields, each number about the bounds, in each place.
func TestElements(t *testing.T) {
	for _, h := range halls() {
		for place := range h.n {
			for _, x := range []int{-1, 0, h.q - 1, h.q, h.q + 1} {
				want := api.OK
				if x < 0 || x >= h.q {
					want = api.ErrRange
				}
				row := make([]int, h.n)
				row[place] = x
				for _, c := range faces() {
					if _, e := c.call(h.f, h.n, [][]int{row}, nil, make([]int, h.n)); e != want {
						t.Errorf("%s: %s of %v: error %d", h, c.name, row, e)
					}
					if _, e := c.call(h.f, h.n, nil, [][]int{row}, row); (c.lists == 2 || c.row) && e != want {
						t.Errorf("%s: %s of a second %v: error %d", h, c.name, row, e)
					}
				}
			}
		}
	}
}
