package strong_test

import (
	"math"
	"slices"
	"testing"

	"parterre/api"
	"parterre/field"
	"parterre/latin"
	"parterre/strong"
)

// TestPaley has G3: each field there is, with each polynomial. An order above 24 is told ahead of one that is not 1 modulo 4.
func TestPaley(t *testing.T) {
	made := map[int]int{}
	for _, f := range allFields() {
		got, e := strong.Paley(f)
		switch q := orderOf(f); {
		case q > 24:
			wantSquare(t, name("Paley", f), got, e, api.Square{}, api.ErrFull)
		case q%4 != 1:
			wantSquare(t, name("Paley", f), got, e, api.Square{}, api.ErrNone)
		default:
			wantSquare(t, name("Paley", f), got, e, paleyOf(f), api.OK)
			wantError(t, name("Check of Paley", f), wrongWith(got), api.OK)
			made[q]++
		}
	}
	for _, q := range []int{5, 9, 13, 17} {
		if made[q] == 0 {
			t.Errorf("none of order %d is made", q)
		}
	}
}

// TestPaleyByHand has G3: no field is asked.
func TestPaleyByHand(t *testing.T) {
	for p, squares := range map[int][]int{5: {1, 4}, 13: {1, 3, 4, 9, 10, 12}, 17: {1, 2, 4, 8, 9, 13, 15, 16}} {
		got, e := strong.Paley(api.Field{Prime: p, Degree: 1, Low: []int{0}})
		wantSquare(t, name("Paley", p), got, e, drawn(p, func(a, b int) bool { return slices.Contains(squares, (b-a+p)%p) }), api.OK)
	}
	// x x is 2, so that the squares are 1, 2, and (1 + x)(1 + x) = 2 x, (1 + 2 x)(1 + 2 x) = x: these join what is in one row or column of a table.
	got, e := strong.Paley(api.Field{Prime: 3, Degree: 2, Low: []int{1, 0}})
	wantSquare(t, "Paley of 9", got, e, lattice(3), api.OK)
	// x x is x + 1, so that (1 + x)(1 + x) is 2, and x x is x + 1: the squares are 1, 2, 1 + x, 2 + 2 x.
	got, e = strong.Paley(api.Field{Prime: 3, Degree: 2, Low: []int{2, 2}})
	squares := [][2]int{{1, 0}, {2, 0}, {1, 1}, {2, 2}}
	wantSquare(t, "Paley of 9 otherwise", got, e, drawn(9, func(a, b int) bool {
		return slices.Contains(squares, [2]int{(b%3 - a%3 + 3) % 3, (b/3 - a/3 + 3) % 3})
	}), api.OK)
}

// brokenFields have each error of chapter 1.
func brokenFields() []api.Field {
	return []api.Field{
		{},
		{Prime: 4, Degree: 1, Low: []int{0}},
		{Prime: 9, Degree: 1, Low: []int{0}},
		{Prime: 1, Degree: 1, Low: []int{0}},
		{Prime: -5, Degree: 1, Low: []int{0}},
		{Prime: 5, Degree: 0},
		{Prime: 5, Degree: -1},
		{Prime: 67, Degree: 1, Low: []int{0}},
		{Prime: 73, Degree: 1, Low: []int{0}},
		{Prime: 5, Degree: 3, Low: []int{1, 1, 0}},
		{Prime: 3, Degree: math.MaxInt},
		{Prime: math.MaxInt, Degree: 1, Low: []int{0}},
		{Prime: math.MinInt, Degree: math.MinInt},
		{Prime: 5, Degree: 1},
		{Prime: 5, Degree: 1, Low: []int{0, 0}},
		{Prime: 7, Degree: 1, Low: []int{0, 9}},
		{Prime: 29, Degree: 1},
		{Prime: 3, Degree: 2, Low: []int{2}},
		{Prime: 5, Degree: 1, Low: []int{5}},
		{Prime: 5, Degree: 1, Low: []int{-1}},
		{Prime: 29, Degree: 1, Low: []int{29}},
		{Prime: 3, Degree: 2, Low: []int{1, 3}},
		{Prime: 3, Degree: 2, Low: []int{2, 0}},
		{Prime: 3, Degree: 2, Low: []int{0, 0}},
		{Prime: 2, Degree: 2, Low: []int{1, 0}},
		{Prime: 5, Degree: 2, Low: []int{1, 0}},
		{Prime: 2, Degree: 6, Low: []int{0, 0, 0, 0, 0, 0}},
	}
}

// TestPaleyOfWrong has G3: what the field's Check says comes first, whatever its order is.
func TestPaleyOfWrong(t *testing.T) {
	told := map[api.Errno]int{}
	for _, f := range brokenFields() {
		e := field.Check(f)
		told[e]++
		got, wrong := strong.Paley(f)
		wantSquare(t, name("Paley", f), got, wrong, api.Square{}, e)
	}
	if told[api.OK] > 0 || told[api.ErrRange] == 0 || told[api.ErrShape] == 0 || told[api.ErrNone] == 0 {
		t.Errorf("the fields have not each error: %v", told)
	}
}

// TestTriangle has G3: each n there is, and the ends.
func TestTriangle(t *testing.T) {
	for n := 2; n <= 7; n++ {
		got, e := strong.Triangle(n)
		wantSquare(t, name("Triangle", n), got, e, triangleOf(n), api.OK)
		wantError(t, name("Check of Triangle", n), wrongWith(got), api.OK)
		if got.Side != n*(n-1)/2 {
			t.Errorf("Triangle of %d: %d places", n, got.Side)
		}
	}
	for _, n := range []int{1, 0, -1, -2, -7, 8, 9, 24, 1 << 32, 1<<32 + 2, math.MinInt, math.MinInt + 5, math.MaxInt} {
		got, e := strong.Triangle(n)
		wantSquare(t, name("Triangle", n), got, e, api.Square{}, api.ErrRange)
	}
}

// TestTriangleByHand has G3: of four numbers the pairs are 01, 02, 03, 12, 13, 23.
func TestTriangleByHand(t *testing.T) {
	got, e := strong.Triangle(2)
	wantSquare(t, "Triangle of 2", got, e, cells(1, 0), api.OK)
	got, e = strong.Triangle(3)
	wantSquare(t, "Triangle of 3", got, e, cells(3, 0, 1, 1, 1, 0, 1, 1, 1, 0), api.OK)
	got, e = strong.Triangle(4)
	wantSquare(t, "Triangle of 4", got, e, cells(6,
		0, 1, 1, 1, 1, 0,
		1, 0, 1, 1, 0, 1,
		1, 1, 0, 0, 1, 1,
		1, 1, 0, 0, 1, 1,
		1, 0, 1, 1, 0, 1,
		0, 1, 1, 1, 1, 0), api.OK)
}

// TestLatin has G3: each Latin square of a side of up to 4, as many as books count.
func TestLatin(t *testing.T) {
	for i, many := range []int{1, 2, 12, 576} {
		all := latins(i + 1)
		if len(all) != many {
			t.Errorf("%d Latin squares of side %d, want %d", len(all), i+1, many)
		}
		for _, s := range all {
			got, e := strong.Latin(s)
			wantSquare(t, name("Latin", s), got, e, latinOf(s), api.OK)
			wantError(t, name("Check of Latin", s), wrongWith(got), api.OK)
		}
	}
}

// TestLatinByHand has G3: of three rows each cell is joined to all but two, which are in its row, its column and its number not.
func TestLatinByHand(t *testing.T) {
	got, e := strong.Latin(cells(1, 0))
	wantSquare(t, "Latin of side 1", got, e, cells(1, 0), api.OK)
	got, e = strong.Latin(cells(2, 1, 0, 0, 1))
	wantSquare(t, "Latin of side 2", got, e, complete(4), api.OK)
	got, e = strong.Latin(cells(3, 0, 1, 2, 1, 2, 0, 2, 0, 1))
	wantSquare(t, "Latin of side 3", got, e, cells(9,
		0, 1, 1, 1, 0, 1, 1, 1, 0,
		1, 0, 1, 1, 1, 0, 0, 1, 1,
		1, 1, 0, 0, 1, 1, 1, 0, 1,
		1, 1, 0, 0, 1, 1, 1, 0, 1,
		0, 1, 1, 1, 0, 1, 1, 1, 0,
		1, 0, 1, 1, 1, 0, 0, 1, 1,
		1, 0, 1, 1, 1, 0, 0, 1, 1,
		1, 1, 0, 0, 1, 1, 1, 0, 1,
		0, 1, 1, 1, 0, 1, 1, 1, 0), api.OK)
}

// TestLatinOfGreat has G3: from side 5 on there are too many places, of a square of which nothing is wrong.
func TestLatinOfGreat(t *testing.T) {
	for n := 5; n <= 8; n++ {
		s := cells(n)
		for i := range n {
			for j := range n {
				s.Cells = append(s.Cells, (i+j)%n)
			}
		}
		got, e := strong.Latin(s)
		wantSquare(t, name("Latin", n), got, e, api.Square{}, api.ErrFull)
		for x, want := range map[int]api.Errno{n: api.ErrRange, -1: api.ErrRange, 1: api.ErrTwice} {
			got, e = strong.Latin(instead(s, 0, x))
			wantSquare(t, name("Latin", n, x), got, e, api.Square{}, want)
		}
		got, e = strong.Latin(cells(n, s.Cells[1:]...))
		wantSquare(t, name("Latin, a cell short", n), got, e, api.Square{}, api.ErrShape)
	}
}

// TestLatinOfWrong has G3: latin's Check comes first.
func TestLatinOfWrong(t *testing.T) {
	told := map[api.Errno]int{}
	for _, s := range []api.Square{
		{}, cells(0, 0), cells(-1, 0), cells(9), cells(9, make([]int, 81)...), cells(24), empty(24), cells(math.MaxInt), cells(math.MinInt, 0), cells(1<<32, 0),
		cells(1), cells(1, 0, 0), cells(4, make([]int, 15)...), cells(8, make([]int, 63)...), cells(3, 0, 1, 2, 3),
		cells(1, 1), cells(1, -1), cells(2, 0, 1, 1, 2), cells(2, 0, 0, 1, 2), cells(2, math.MaxInt, 0, 0, math.MinInt),
		cells(2, 0, 1, 0, 1), cells(2, 0, 0, 1, 1), cells(3, 0, 1, 2, 1, 2, 0, 2, 1, 0), cells(8, make([]int, 64)...), cells(4, make([]int, 16)...),
	} {
		e := latin.Check(s)
		told[e]++
		got, wrong := strong.Latin(s)
		wantSquare(t, name("Latin", s), got, wrong, api.Square{}, e)
	}
	if told[api.OK] > 0 || told[api.ErrRange] == 0 || told[api.ErrShape] == 0 || told[api.ErrTwice] == 0 {
		t.Errorf("the squares have not each error: %v", told)
	}
}
