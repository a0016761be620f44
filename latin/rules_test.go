package latin_test

import (
	"fmt"
	"math"
	"slices"
	"testing"

	"parterre/api"
	"parterre/field"
	"parterre/latin"
)

// TestExampleOfTheChapter has the table behind L5.
func TestExampleOfTheChapter(t *testing.T) {
	three, e := latin.Cyclic(3)
	wantSquare(t, "Cyclic of 3", three, e, api.Square{Side: 3, Cells: []int{0, 1, 2, 1, 2, 0, 2, 0, 1}})
	got, e := latin.Transversals(three)
	wantNumber(t, "Transversals of Cyclic of 3", got, e, 3)
	four, _ := latin.Cyclic(4)
	got, e = latin.Transversals(four)
	wantNumber(t, "Transversals of Cyclic of 4", got, e, 0)
	s, e := latin.Extend(3, [][]int{{1, 0, 2}})
	wantSquare(t, "Extend of 3, 1 0 2", s, e, api.Square{Side: 3, Cells: []int{1, 0, 2, 0, 2, 1, 2, 1, 0}})
	got, e = latin.Intercalates(four)
	wantNumber(t, "Intercalates of Cyclic of 4", got, e, 4)
	f, _ := field.Least(2, 2)
	s, _ = latin.Made(f, 1)
	got, e = latin.Intercalates(s)
	wantNumber(t, "Intercalates of Made", got, e, 12)
}

// answers tells all that is asked of squares, rows and a field, as text.
func answers(a, b api.Square, rows [][]int, f api.Field, k int) string {
	told := []any{latin.Check(a), latin.Check(b)}
	tell := func(got any, e api.Errno) { told = append(told, got, e) }
	for _, s := range []api.Square{a, b} {
		c, e := latin.Conjugate(s, k)
		tell(c, e)
		n, e := latin.Transversals(s)
		tell(n, e)
		n, e = latin.Intercalates(s)
		tell(n, e)
	}
	yes, e := latin.Orthogonal(a, b)
	tell(yes, e)
	s, e := latin.Extend(a.Side, rows)
	tell(s, e)
	s, e = latin.Made(f, k)
	tell(s, e)
	s, e = latin.Cyclic(k)
	tell(s, e)
	return fmt.Sprint(told...)
}

// TestNothingIsWritten has P2 and P4: the lists, and what lies behind their length, stay; and the same is told again.
func TestNothingIsWritten(t *testing.T) {
	fresh := func() (one, other, low []int, rows [][]int) {
		one = append(cyclic(4).Cells, -7, 99, 3)
		other = append(bitwise(4).Cells, 2, -1)
		low = []int{1, 1, 7, 9}
		top := []int{1, 0, 3, 2, 64, -5}
		rows = [][]int{top[:4], {3, 2, 1, 0}, {9, 9}, {-1}, nil}
		return
	}
	one, other, low, rows := fresh()
	a, b, f := api.Square{Side: 4, Cells: one[:16]}, api.Square{Side: 4, Cells: other[:16]}, api.Field{Prime: 2, Degree: 2, Low: low[:2]}
	for k := range 6 {
		told := answers(a, b, rows[:2], f, k)
		if again := answers(a, b, rows[:2], f, k); again != told {
			t.Errorf("got %s, then %s", told, again)
		}
	}
	wantOne, wantOther, wantLow, wantRows := fresh()
	if !slices.Equal(one, wantOne) || !slices.Equal(other, wantOther) || !slices.Equal(low, wantLow) || !slices.EqualFunc(rows, wantRows, slices.Equal) {
		t.Errorf("written into: %v, %v, %v, %v", one, other, low, rows)
	}
	if !slices.Equal(rows[0][:6], []int{1, 0, 3, 2, 64, -5}) {
		t.Errorf("written behind a row: %v", rows[0][:6])
	}
}

// TestNothingIsWrittenMeanwhile has P2: squares and rows are read by many at once, and none may write into them even for a while (the race detector tells).
func TestNothingIsWrittenMeanwhile(t *testing.T) {
	a, b, rows, f := cyclic(5), shuffled(cyclic(5), 2), rowsOf(cyclic(5))[:2:5], api.Field{Prime: 2, Degree: 2, Low: []int{1, 1}}
	want := answers(a, b, rows, f, 3)
	told := make(chan string)
	for range 8 {
		go func() { told <- answers(a, b, rows, f, 3) }()
	}
	for range 8 {
		if got := <-told; got != want {
			t.Errorf("got %s, want %s", got, want)
		}
	}
}

// TestWhatComesOutIsFresh has P2: whoever writes into an answer, or behind its length, changes neither what was handed in nor what is told next.
func TestWhatComesOutIsFresh(t *testing.T) {
	f := api.Field{Prime: 2, Degree: 3, Low: []int{1, 1, 0}}
	given := shuffled(bitwise(8), 3)
	rows := rowsOf(given)
	for call, make := range map[string]func() (api.Square, api.Errno){
		"Cyclic":              func() (api.Square, api.Errno) { return latin.Cyclic(8) },
		"Made":                func() (api.Square, api.Errno) { return latin.Made(f, 1) },
		"Conjugate by 0":      func() (api.Square, api.Errno) { return latin.Conjugate(given, 0) },
		"Conjugate by 4":      func() (api.Square, api.Errno) { return latin.Conjugate(given, 4) },
		"Extend of no rows":   func() (api.Square, api.Errno) { return latin.Extend(8, nil) },
		"Extend of some rows": func() (api.Square, api.Errno) { return latin.Extend(8, rows[:3]) },
		"Extend of all rows":  func() (api.Square, api.Errno) { return latin.Extend(8, rows) },
	} {
		got, e := make()
		if e != api.OK {
			t.Fatalf("%s: error %d", call, e)
		}
		want := api.Square{Side: got.Side, Cells: slices.Clone(got.Cells)}
		all := got.Cells[:cap(got.Cells)]
		for i := range all {
			all[i] = -1
		}
		again, e := make()
		wantSquare(t, call, again, e, want)
	}
	if !same(given, shuffled(bitwise(8), 3)) || !same(squareOf(rows), given) || !slices.Equal(f.Low, []int{1, 1, 0}) {
		t.Errorf("what was handed in is written into: %v, %v, %v", given, rows, f)
	}
}

// TestNoNumberPanics has P1: each face at numbers from end to end, in each place.
func TestNoNumberPanics(t *testing.T) {
	ends := []int{math.MinInt, -1, 0, 1, 2, 3, 7, 8, 9, 1 << 32, math.MaxInt}
	for _, n := range ends {
		for _, x := range ends {
			for long := range 10 {
				cells := stay(long)
				if long > 0 {
					cells[long/2] = x
				}
				f := api.Field{Prime: n, Degree: x, Low: cells}
				answers(api.Square{Side: n, Cells: cells}, api.Square{Side: x, Cells: cells}, [][]int{cells, cells}, f, x)
				answers(cyclic(3), api.Square{Side: n, Cells: cells}, [][]int{cells}, f, x)
				answers(api.Square{Side: n}, cyclic(1), nil, f, n)
			}
		}
	}
}
