package array_test

import (
	"fmt"
	"math"
	"slices"
	"testing"

	"parterre/api"
	"parterre/array"
	"parterre/field"
)

// TestExamplesOfTheChapter has the table behind A4.
func TestExamplesOfTheChapter(t *testing.T) {
	strength, e := array.Strength(2, texts("000", "011", "101", "110"))
	wantNumber(t, "Strength", strength, e, 2, api.OK)
	bound, e := array.Rao(7, 2, 2)
	wantNumber(t, "Rao of 7, 2, 2", bound, e, 8, api.OK)
	bound, e = array.Rao(4, 3, 2)
	wantNumber(t, "Rao of 4, 3, 2", bound, e, 9, api.OK)
	f, e := field.Least(2, 1)
	wantError(t, "Least of 2, 1", e, api.OK)
	runs, e := array.Linear(f, 3, texts("110", "011"))
	wantRows(t, "Linear", runs, e, texts("000", "011", "101", "110"), api.OK)
}

// answers tells all that is asked of runs, as text.
func answers(s int, runs [][]int, column, level int) string {
	strength, e := array.Strength(s, runs)
	dropped, e1 := array.Drop(s, runs, column)
	taken, e2 := array.Take(s, runs, column, level)
	return fmt.Sprint(array.Check(s, runs), strength, e, dropped, e1, taken, e2)
}

// linear and squares tell what is made, as text.
func linear(f api.Field, n int, rows [][]int) string {
	runs, e := array.Linear(f, n, rows)
	return fmt.Sprint(runs, e)
}

func squares(list []api.Square) string {
	runs, e := array.Squares(list)
	return fmt.Sprint(runs, e)
}

// padded has room, and other numbers, behind each row, and other rows behind the last.
func padded(rows [][]int) [][]int {
	var out [][]int
	for _, row := range rows {
		out = append(out, append(slices.Clone(row), -7, 99, 0, 1)[:len(row)])
	}
	return append(out, []int{1, 1, 1}, []int{99}, nil)[:len(rows)]
}

// behind tells all that lies in the memory of rows.
func behind(rows [][]int) string {
	var told []any
	for _, row := range rows[:cap(rows)] {
		told = append(told, len(row), row[:cap(row)])
	}
	return fmt.Sprint(told...)
}

// asked are runs, some of which are wrong.
func asked() [][][]int {
	return [][][]int{
		nil, {nil}, texts("0"), texts("0", "1"), texts("00", "01", "11", "10"), texts("000", "011", "101", "110"), plackett(), reed(), even(8), lists(2, 7),
		texts("00", "11", "0"), texts("00", "12"), texts("000", "111", "000", "111", "110"), slices.Concat(even(8), even(8)), {make([]int, 9)},
	}
}

// TestNothingIsWritten has P2 and P4 of the document: the runs, and what lies behind their length, stay and are not read; and the same is told again.
func TestNothingIsWritten(t *testing.T) {
	for _, runs := range asked() {
		for _, column := range []int{-1, 0, 1, 7, 8} {
			for level := -1; level <= 2; level++ {
				want := answers(2, runs, column, level)
				other := padded(runs)
				was := behind(other)
				for range 2 {
					if told := answers(2, other, column, level); told != want {
						t.Errorf("got %s, want %s", told, want)
					}
				}
				if behind(other) != was {
					t.Errorf("written into: %v", runs)
				}
			}
		}
	}
}

// rowsAsked are rows of three elements of the field of 4, and some that are wrong.
func rowsAsked() [][][]int {
	return append(wrongRows(), nil, texts("000"), texts("002"), texts("231"), texts("011", "022", "300"), texts("003", "021", "111"), repeated(texts("321", "030"), 6))
}

// TestRowsAreNotWritten has P2 and P4 of the document, of what Linear is given.
func TestRowsAreNotWritten(t *testing.T) {
	low := []int{1, 1, 0, -7, 99}
	f := api.Field{Prime: 2, Degree: 2, Low: low[:2]}
	for _, rows := range rowsAsked() {
		want := linear(four(), 3, rows)
		other := padded(rows)
		was := behind(other)
		for range 2 {
			if told := linear(f, 3, other); told != want {
				t.Errorf("got %s, want %s", told, want)
			}
		}
		if behind(other) != was {
			t.Errorf("written into: %v", rows)
		}
	}
	if !slices.Equal(low, []int{1, 1, 0, -7, 99}) {
		t.Errorf("written into %v", low)
	}
}

// squaresAsked are lists of squares, some of which are wrong.
func squaresAsked() [][]api.Square {
	next := numbers(8)
	return [][]api.Square{
		nil, {square(1, 0)}, {square(2, 0, 1, 1, 0), square(2, 1, 0, 0, 1)}, strewnSquares(5, 4, next), strewnSquares(8, 6, next), {cyclic(3, 1), cyclic(3, 2)},
		{square(2, 0, 1, 1, 1)}, {cyclic(3, 1), cyclic(4, 1)}, {cyclic(3, 1), {}}, slices.Repeat([]api.Square{cyclic(3, 1)}, 7),
	}
}

// paddedSquares have room, and other numbers, behind their cells, and other squares behind the last.
func paddedSquares(list []api.Square) []api.Square {
	var out []api.Square
	for _, s := range list {
		out = append(out, square(s.Side, append(slices.Clone(s.Cells), -7, 99, 0)[:len(s.Cells)]...))
	}
	return append(out, square(9, 9), square(1, 0))[:len(list)]
}

// behindSquares tells all that lies in the memory of squares.
func behindSquares(list []api.Square) string {
	var told []any
	for _, s := range list[:cap(list)] {
		told = append(told, s.Side, len(s.Cells), s.Cells[:cap(s.Cells)])
	}
	return fmt.Sprint(told...)
}

// TestSquaresAreNotWritten has P2 and P4 of the document, of what Squares is given.
func TestSquaresAreNotWritten(t *testing.T) {
	for _, list := range squaresAsked() {
		want := squares(list)
		other := paddedSquares(list)
		was := behindSquares(other)
		for range 2 {
			if told := squares(other); told != want {
				t.Errorf("got %s, want %s", told, want)
			}
		}
		if behindSquares(other) != was {
			t.Errorf("written into: %v", list)
		}
	}
}

// TestSharedMemory has P2 of the document: the lists that are handed in may be one.
func TestSharedMemory(t *testing.T) {
	row := []int{0, 1, 1}
	runs, apart := [][]int{row, row, {1, 1, 0}, row}, texts("011", "011", "110", "011")
	if got, want := answers(2, runs, 1, 1), answers(2, apart, 1, 1); got != want {
		t.Errorf("got %s, want %s", got, want)
	}
	if got, want := linear(four(), 3, runs), linear(four(), 3, apart); got != want {
		t.Errorf("got %s, want %s", got, want)
	}
	s := cyclic(3, 1)
	if got, want := squares([]api.Square{s, s}), squares([]api.Square{cyclic(3, 1), cyclic(3, 1)}); got != want {
		t.Errorf("got %s, want %s", got, want)
	}
	if !sameRows(runs, apart) || !slices.Equal(s.Cells, cyclic(3, 1).Cells) {
		t.Errorf("written into: %v, %v", runs, s)
	}
}

// TestNothingIsWrittenMeanwhile has P2 of the document: what is handed in is read by many at once, and none may write into it even for a while (the race detector tells).
func TestNothingIsWrittenMeanwhile(t *testing.T) {
	f, rows, list := four(), padded(texts("011", "022", "300")), paddedSquares(squaresAsked()[4])
	for _, runs := range asked() {
		ask := func() string { return answers(2, runs, 1, 1) + linear(f, 3, rows) + squares(list) }
		want := ask()
		told := make(chan string)
		for range 8 {
			go func() { told <- ask() }()
		}
		for range 8 {
			if got := <-told; got != want {
				t.Errorf("got %s, want %s", got, want)
			}
		}
	}
}

// TestNothingIsKept has P2 of the document: what is told hangs on what is there now.
func TestNothingIsKept(t *testing.T) {
	next := numbers(4)
	runs, rows, s := strewn(2, 4, 3, next), strewn(8, 1, 2, next), cyclic(5, 1)
	f := api.Field{Prime: 2, Degree: 3, Low: []int{1, 1, 0}}
	for i := range 60 {
		now := strewn(2, 4, 3, next)
		if i%3 == 0 {
			now = otherwise(2, texts("000", "011", "101", "110"), next)
		}
		want := answers(2, now, i%3, i%2)
		for j := range runs {
			copy(runs[j], now[j])
		}
		if got := answers(2, runs, i%3, i%2); got != want {
			t.Errorf("got %s, want %s", got, want)
		}
		low, row := [][]int{{1, 1, 0}, {1, 0, 1}}[i%2], []int{next(8), next(8)}
		want = linear(api.Field{Prime: 2, Degree: 3, Low: low}, 2, [][]int{row})
		copy(f.Low, low)
		copy(rows[0], row)
		if got := linear(f, 2, rows); got != want {
			t.Errorf("got %s, want %s", got, want)
		}
		other := strewnSquares(5, 1, next)[0]
		want = squares([]api.Square{other})
		copy(s.Cells, other.Cells)
		if got := squares([]api.Square{s}); got != want {
			t.Errorf("got %s, want %s", got, want)
		}
	}
}

// spoil writes into all of a list's memory.
func spoil(list []int) {
	list = list[:cap(list)]
	for i := range list {
		list[i] = -5
	}
}

// wantFresh spoils one list of an answer after the other: no other one of it changes, nor what is told next.
func wantFresh(t *testing.T, call string, ask func() ([][]int, api.Errno)) {
	t.Helper()
	got, e := ask()
	want := cloned(got)
	for i := range want {
		got, _ := ask()
		spoil(got[i])
		for j, row := range got {
			if j != i && !slices.Equal(row, want[j]) {
				t.Errorf("%s: list %d is in the memory of list %d", call, j, i)
			}
		}
	}
	clear(got[:cap(got)])
	again, e1 := ask()
	wantRows(t, call+" again", again, e1, want, e)
}

// TestWhatComesOutIsFresh has P2 of the document: whoever writes into what is answered, or behind its length, changes no other list of it, nothing that was handed in, and nothing that is told next.
func TestWhatComesOutIsFresh(t *testing.T) {
	for _, runs := range asked() {
		was := behind(runs)
		for _, column := range []int{0, 1, 2, 7} {
			wantFresh(t, name("Drop", runs, column), func() ([][]int, api.Errno) { return array.Drop(2, runs, column) })
			wantFresh(t, name("Take", runs, column), func() ([][]int, api.Errno) { return array.Take(2, runs, column, 1) })
		}
		if behind(runs) != was {
			t.Errorf("what was handed in is written into: %v", runs)
		}
	}
	f := four()
	for _, rows := range rowsAsked() {
		was := behind(rows)
		wantFresh(t, name("Linear", rows), func() ([][]int, api.Errno) { return array.Linear(f, 3, rows) })
		if behind(rows) != was || !slices.Equal(f.Low, []int{1, 1}) {
			t.Errorf("what was handed in is written into: %v, %v", f, rows)
		}
	}
	for _, list := range squaresAsked() {
		was := behindSquares(list)
		wantFresh(t, name("Squares", list), func() ([][]int, api.Errno) { return array.Squares(list) })
		if behindSquares(list) != was {
			t.Errorf("what was handed in is written into: %v", list)
		}
	}
}

// TestEmptyAndNil has P4 of the document: an empty list and nil are the same.
func TestEmptyAndNil(t *testing.T) {
	for s := -1; s <= 66; s++ {
		for _, two := range [][2][][]int{{nil, {}}, {{nil}, {{}}}, {{nil, {}}, {{}, nil}}, {{{0}, nil}, {{0}, {}}}} {
			if a, b := answers(s, two[0], 0, 0), answers(s, two[1], 0, 0); a != b {
				t.Errorf("got %s and %s", a, b)
			}
		}
	}
	for n := -1; n <= 7; n++ {
		for _, f := range []api.Field{four(), numberField(2, 0), {}, {Prime: 2, Degree: 1}} {
			for _, two := range [][2][][]int{{nil, {}}, {{nil}, {{}}}} {
				other := f
				if other.Low == nil {
					other.Low = []int{}
				}
				if a, b := linear(f, n, two[0]), linear(other, n, two[1]); a != b {
					t.Errorf("got %s and %s", a, b)
				}
			}
		}
	}
	for side := -1; side <= 9; side++ {
		if a, b := squares([]api.Square{{Side: side}}), squares([]api.Square{{Side: side, Cells: []int{}}}); a != b {
			t.Errorf("got %s and %s", a, b)
		}
	}
	if a, b := squares(nil), squares([]api.Square{}); a != b {
		t.Errorf("got %s and %s", a, b)
	}
}

// TestNoNumberPanics has P1 of the document: each face at numbers from end to end, in each place.
func TestNoNumberPanics(t *testing.T) {
	ends := []int{math.MinInt, math.MinInt + 1, -1, 0, 1, 2, 3, 4, 6, 7, 8, 9, 30, 31, 63, 64, 65, 128, 1 << 32, math.MaxInt - 1, math.MaxInt}
	for _, x := range ends {
		for _, y := range ends {
			for _, z := range ends {
				answers(x, texts("000", "011", "101", "110"), y, z)
				answers(2, [][]int{{0, x, 1}, {y, 0, 1}}, z, z)
				array.Rao(x, y, z)
				linear(four(), 3, [][]int{{x, y, z}})
				linear(api.Field{Prime: x, Degree: y, Low: []int{0}}, z, [][]int{{1}})
				squares([]api.Square{square(x, y, z), square(1, 0)})
				squares([]api.Square{square(2, 0, 1, 1, 0), square(2, x, y, z, 0)})
			}
			for long := range 10 {
				answers(x, [][]int{slices.Repeat([]int{y}, long)}, long-1, y)
				linear(api.Field{Prime: x, Degree: y, Low: make([]int, long)}, long, [][]int{make([]int, long)})
				squares([]api.Square{square(x, slices.Repeat([]int{y}, long)...)})
			}
		}
	}
	for _, many := range []int{0, 1, 127, 128, 129, 5000} {
		answers(64, make([][]int, many), 0, 0)
		answers(2, slices.Repeat([][]int{{0, 1, 0, 1, 0, 1, 0, 1}}, many), 7, 1)
		linear(numberField(2, 0), 6, slices.Repeat([][]int{{0, 1, 0, 1, 0, 1}}, many))
		squares(make([]api.Square, many))
	}
}
