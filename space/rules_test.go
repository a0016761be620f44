package space_test

import (
	"fmt"
	"math"
	"slices"
	"testing"

	"parterre/api"
	"parterre/field"
	"parterre/space"
)

// TestExampleOfTheChapter has the table behind S4.
func TestExampleOfTheChapter(t *testing.T) {
	n, e := space.Gauss(4, 2, 2)
	wantNumber(t, "Gauss of 4, 2, 2", n, e, 35, api.OK)
	n, e = space.Gauss(3, 1, 5)
	wantNumber(t, "Gauss of 3, 1, 5", n, e, 31, api.OK)
	f, _ := field.Least(3, 1)
	basis, e := space.Basis(f, 3, [][]int{{1, 2, 0}, {2, 1, 1}})
	wantRows(t, "Basis", basis, e, [][]int{{1, 2, 0}, {0, 0, 1}}, api.OK)
	normal, e := space.Normal(f, 3, basis)
	wantRows(t, "Normal", normal, e, [][]int{{1, 1, 0}}, api.OK)
}

// answers tells all that is asked of rows, as text.
func answers(f api.Field, n int, a, b [][]int, v []int) string {
	basis, e := space.Basis(f, n, a)
	join, e1 := space.Join(f, n, a, b)
	meet, e2 := space.Meet(f, n, a, b)
	normal, e3 := space.Normal(f, n, a)
	has, e4 := space.Has(f, n, a, v)
	return fmt.Sprint(basis, e, join, e1, meet, e2, normal, e3, has, e4)
}

// paddedRow has room and other numbers behind it.
func paddedRow(row []int) []int {
	return append(slices.Clone(row), -7, 99, 0)[:len(row)]
}

// padded has room behind each row too, and other rows behind the last.
func padded(rows [][]int) [][]int {
	var out [][]int
	for _, row := range rows {
		out = append(out, paddedRow(row))
	}
	return append(out, []int{1, 1, 1}, []int{99}, nil)[:len(rows)]
}

// behind tells all that lies in the memory of rows.
func behind(rows [][]int) string {
	var told []any
	for _, row := range rows[:cap(rows)] {
		told = append(told, len(row), row[:cap(row)])
	}
	return fmt.Sprint(told...)
}

// asked are rows of three elements of the field of 4, with others, some of which are wrong.
func asked() [][][]int {
	return [][][]int{
		nil, {{0, 0, 0}}, {{0, 0, 2}}, {{2, 3, 1}}, {{0, 1, 1}, {0, 2, 2}, {3, 0, 0}}, {{0, 0, 3}, {0, 2, 1}, {1, 1, 1}},
		slices.Repeat([][]int{{3, 2, 1}, {0, 3, 0}}, 6),
		slices.Repeat([][]int{{3, 2, 1}}, 13), {{1, 2, 3}, {1, 2}}, {{0, 3, 2}, {0, 4, 0}, nil},
	}
}

// TestNothingIsWritten has P2 and P4 of the document: the lists, and what lies behind their length, stay and are not read; and the same is told again.
func TestNothingIsWritten(t *testing.T) {
	low := []int{1, 1, 0, -7, 99}
	f := api.Field{Prime: 2, Degree: 2, Low: low[:2]}
	for _, a := range asked() {
		for _, b := range asked() {
			for _, v := range [][]int{{0, 0, 0}, {0, 3, 3}, {3, 2, 1}, {1, 2}, {1, 2, 9}} {
				want := answers(four(), 3, a, b, v)
				one, other, row := padded(a), padded(b), paddedRow(v)
				was, wasOther, wasRow := behind(one), behind(other), fmt.Sprint(row[:cap(row)])
				for range 2 {
					if told := answers(f, 3, one, other, row); told != want {
						t.Errorf("got %s, want %s", told, want)
					}
				}
				if behind(one) != was || behind(other) != wasOther || fmt.Sprint(row[:cap(row)]) != wasRow {
					t.Errorf("written into: %v, %v, %v", a, b, v)
				}
			}
		}
	}
	if !slices.Equal(low, []int{1, 1, 0, -7, 99}) {
		t.Errorf("written into %v", low)
	}
}

// TestSharedMemory has P2 of the document: the lists that are handed in may be one, as may their rows.
func TestSharedMemory(t *testing.T) {
	row := []int{2, 3, 1}
	rows := [][]int{row, row, {0, 1, 1}}
	apart := [][]int{{2, 3, 1}, {2, 3, 1}, {0, 1, 1}}
	want := answers(four(), 3, apart, [][]int{{2, 3, 1}, {2, 3, 1}, {0, 1, 1}}, []int{2, 3, 1})
	if got := answers(four(), 3, rows, rows, row); got != want {
		t.Errorf("got %s, want %s", got, want)
	}
	if !sameRows(rows, apart) {
		t.Errorf("written into: %v", rows)
	}
}

// TestNothingIsWrittenMeanwhile has P2 of the document: what is handed in is read by many at once, and none may write into it even for a while (the race detector tells).
func TestNothingIsWrittenMeanwhile(t *testing.T) {
	f, a, b, v := four(), padded(asked()[4]), padded(asked()[5]), paddedRow([]int{3, 2, 1})
	want := answers(f, 3, a, b, v)
	told := make(chan string)
	for range 8 {
		go func() { told <- answers(f, 3, a, b, v) }()
	}
	for range 8 {
		if got := <-told; got != want {
			t.Errorf("got %s, want %s", got, want)
		}
	}
}

// TestNothingIsKept has P2 of the document: what is told hangs on what is there now.
func TestNothingIsKept(t *testing.T) {
	f := api.Field{Prime: 2, Degree: 3, Low: []int{1, 1, 0}}
	other := api.Field{Prime: 2, Degree: 3, Low: []int{1, 0, 1}}
	a, b, v := [][]int{{5, 6}}, [][]int{{7, 3}}, []int{1, 2}
	want := answers(f, 2, a, b, v)
	wantOther := answers(other, 2, [][]int{{2, 7}}, [][]int{{0, 4}}, []int{4, 5})
	if want == wantOther {
		t.Fatal("the two are alike")
	}
	for range 3 {
		copy(f.Low, []int{1, 0, 1})
		copy(a[0], []int{2, 7})
		copy(b[0], []int{0, 4})
		copy(v, []int{4, 5})
		if got := answers(f, 2, a, b, v); got != wantOther {
			t.Errorf("got %s, want %s", got, wantOther)
		}
		copy(f.Low, []int{1, 1, 0})
		copy(a[0], []int{5, 6})
		copy(b[0], []int{7, 3})
		copy(v, []int{1, 2})
		if got := answers(f, 2, a, b, v); got != want {
			t.Errorf("got %s, want %s", got, want)
		}
	}
}

// spoil writes into all of a list's memory.
func spoil(list []int) {
	list = list[:cap(list)]
	for i := range list {
		list[i] = -1
	}
}

// makers are the faces that answer rows.
func makers(a, b [][]int) map[string]func(f api.Field) ([][]int, api.Errno) {
	return map[string]func(f api.Field) ([][]int, api.Errno){
		"Basis":  func(f api.Field) ([][]int, api.Errno) { return space.Basis(f, 3, a) },
		"Join":   func(f api.Field) ([][]int, api.Errno) { return space.Join(f, 3, a, b) },
		"Meet":   func(f api.Field) ([][]int, api.Errno) { return space.Meet(f, 3, a, b) },
		"Normal": func(f api.Field) ([][]int, api.Errno) { return space.Normal(f, 3, a) },
	}
}

// TestWhatComesOutIsFresh has P2 of the document: whoever writes into one list of an answer, or behind its length, changes no other one of it, nothing that was handed in, and nothing that is told next.
func TestWhatComesOutIsFresh(t *testing.T) {
	whole := [][]int{{1, 0, 0}, {0, 1, 0}, {0, 0, 1}}
	lists := append(asked()[:7], whole, whole[:1], whole[1:])
	for _, a := range lists {
		for _, b := range lists {
			was, wasOther := behind(a), behind(b)
			for call, ask := range makers(a, b) {
				want, _ := ask(four())
				for i := range want {
					got, _ := ask(four())
					spoil(got[i])
					for j, row := range got {
						if j != i && !slices.Equal(row, want[j]) {
							t.Errorf("%s: row %d is in the memory of row %d", name(call, a, b), j, i)
						}
					}
				}
				got, _ := ask(four())
				clear(got[:cap(got)])
				got, e := ask(four())
				wantRows(t, name(call+" again", a, b), got, e, want, api.OK)
			}
			if behind(a) != was || behind(b) != wasOther {
				t.Errorf("what was handed in is written into: %v, %v", a, b)
			}
		}
	}
}

// TestEmptyAndNil has P4 of the document: an empty list and nil are the same.
func TestEmptyAndNil(t *testing.T) {
	for n := -1; n <= 7; n++ {
		for _, f := range []api.Field{four(), numberField(2, 0), {}, {Prime: 2, Degree: 1}} {
			one := answers(f, n, nil, nil, nil)
			other := answers(f, n, [][]int{}, [][]int{}, []int{})
			if one != other {
				t.Errorf("got %s and %s", one, other)
			}
			one, other = answers(f, n, [][]int{nil}, [][]int{{}}, nil), answers(f, n, [][]int{{}}, [][]int{nil}, []int{})
			if one != other {
				t.Errorf("got %s and %s", one, other)
			}
		}
	}
	one, other := answers(api.Field{Prime: 2, Degree: 1}, 1, nil, nil, nil), answers(api.Field{Prime: 2, Degree: 1, Low: []int{}}, 1, nil, nil, nil)
	if one != other {
		t.Errorf("got %s and %s", one, other)
	}
}

// TestNoNumberPanics has P1 of the document: each face at numbers from end to end, in each place. (Gauss is asked so in a test of its own.)
func TestNoNumberPanics(t *testing.T) {
	ends := []int{math.MinInt, math.MinInt + 1, -1, 0, 1, 2, 3, 4, 5, 6, 7, 12, 13, 63, 64, 65, 1 << 32, math.MaxInt - 1, math.MaxInt}
	for _, x := range ends {
		for _, y := range ends {
			for _, z := range ends {
				answers(four(), 3, [][]int{{x, y, z}}, [][]int{{z, x, y}}, []int{y, z, x})
				answers(api.Field{Prime: x, Degree: y, Low: []int{0}}, z, [][]int{{1}}, nil, []int{0})
				answers(numberField(61, 0), x, [][]int{{y, z}}, [][]int{{z}}, []int{y})
			}
			for n := range 9 {
				answers(api.Field{Prime: x, Degree: y, Low: make([]int, n)}, n, [][]int{make([]int, n)}, nil, make([]int, n))
			}
			answers(api.Field{Prime: 2, Degree: 2, Low: []int{x, y}}, 2, [][]int{{1, 2}}, nil, []int{0, 3})
		}
		answers(numberField(5, x), x, make([][]int, 12), make([][]int, 14), []int{x})
		answers(numberField(2, 0), 6, slices.Repeat([][]int{slices.Repeat([]int{x}, 6)}, 12), slices.Repeat([][]int{upTo(6)}, 12), upTo(6))
	}
}
