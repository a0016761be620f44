package count_test

import (
	"fmt"
	"math"
	"slices"
	"testing"

	"parterre/api"
	"parterre/count"
	"parterre/group"
)

// wantError asks all faces that have a group for one error, whatever else they are given, and for nothing beside it (P1).
func wantError(t *testing.T, m maker, want api.Errno) {
	t.Helper()
	for _, colours := range []int{1, 2, 200, 0, 201, -1, math.MinInt, math.MaxInt} {
		if got, e := count.Colourings(m.n, m.makers, colours); got != 0 || e != want {
			t.Errorf("%s of %d: got %d, error %d, want %d", name("Colourings", m), colours, got, e, want)
		}
	}
	for _, many := range [][]int{nil, {m.n}, {3}, {1, 2}, {-1}, {8}, {math.MaxInt, 1}, make([]int, 9)} {
		if got, e := count.Content(m.n, m.makers, many); got != 0 || e != want {
			t.Errorf("%s of %v: got %d, error %d, want %d", name("Content", m), many, got, e, want)
		}
	}
	if got, e := count.Index(m.n, m.makers); len(got) != 0 || e != want {
		t.Errorf("%s: got %v, error %d, want %d", name("Index", m), got, e, want)
	}
}

// TestGroupFirst has C2: what group's Check says comes ahead of all else.
func TestGroupFirst(t *testing.T) {
	for _, n := range []int{0, -1, 8, 12, 1 << 32, math.MaxInt, math.MinInt} {
		wantError(t, maker{n, nil}, api.ErrRange)
		wantError(t, maker{n, [][]int{{0}, {0}, {0}, {0}, {0}}}, api.ErrRange)
		wantError(t, maker{n, [][]int{{0, 0}}}, api.ErrRange)
	}
	wantError(t, maker{3, slices.Repeat([][]int{stay(3)}, 5)}, api.ErrFull)
	wantError(t, maker{3, slices.Repeat([][]int{{-1}}, 5)}, api.ErrFull)
	for _, b := range []struct {
		a    []int
		want api.Errno
	}{
		{stay(13), api.ErrFull}, {[]int{0, 1, 3}, api.ErrRange}, {[]int{-1, 1, 2}, api.ErrRange}, {[]int{0, 0, 1}, api.ErrTwice}, {[]int{1, 1}, api.ErrTwice}, {nil, api.ErrShape}, {stay(4), api.ErrShape},
	} {
		wantError(t, maker{3, [][]int{b.a}}, b.want)
		wantError(t, maker{3, [][]int{turn(3), b.a, stay(13), {9}}}, b.want)
	}
}

// TestColours has C2's ErrRange.
func TestColours(t *testing.T) {
	for _, makers := range [][][]int{nil, {turn(3)}} {
		for _, colours := range []int{0, -1, 201, 202, 1000, 1<<32 + 1, math.MaxInt, math.MinInt} {
			if got, e := count.Colourings(3, makers, colours); got != 0 || e != api.ErrRange {
				t.Errorf("Colourings(3, %v, %d): got %d, error %d", makers, colours, got, e)
			}
		}
	}
}

// TestWrongContent has C2's errors, where several are wrong the one that is said first.
func TestWrongContent(t *testing.T) {
	for _, b := range []struct {
		many []int
		want api.Errno
	}{
		{make([]int, 9), api.ErrFull}, {[]int{4, 0, 0, 0, 0, 0, 0, 0, 0}, api.ErrFull}, {slices.Repeat([]int{-1}, 9), api.ErrFull}, {slices.Repeat([]int{5}, 100), api.ErrFull},
		{[]int{5}, api.ErrRange}, {[]int{-1}, api.ErrRange}, {[]int{4, -1}, api.ErrRange}, {[]int{5, -1}, api.ErrRange}, {[]int{2, 2, 5}, api.ErrRange}, {[]int{4, 4, 4, -1}, api.ErrRange}, {[]int{2, 3, -1}, api.ErrRange},
		{[]int{math.MaxInt, math.MaxInt, 6}, api.ErrRange}, {[]int{math.MinInt, math.MinInt, 4}, api.ErrRange}, {[]int{1, 1, 1, 1, 0, 0, 0, 5}, api.ErrRange},
		{nil, api.ErrShape}, {[]int{}, api.ErrShape}, {[]int{0}, api.ErrShape}, {[]int{3}, api.ErrShape}, {[]int{4, 1}, api.ErrShape}, {[]int{4, 4}, api.ErrShape}, {[]int{1, 2, 0}, api.ErrShape}, {slices.Repeat([]int{4}, 8), api.ErrShape}, {make([]int, 8), api.ErrShape}, {slices.Repeat([]int{1}, 8), api.ErrShape},
		{[]int{4}, api.OK}, {[]int{0, 4}, api.OK}, {[]int{2, 2}, api.OK}, {[]int{1, 1, 1, 1, 0, 0, 0, 0}, api.OK}, {[]int{0, 0, 0, 0, 0, 0, 0, 4}, api.OK},
	} {
		got, e := count.Content(4, [][]int{turn(4)}, b.many)
		if e != b.want || (got == 0) != (e != api.OK) {
			t.Errorf("Content of %v: got %d, error %d, want %d", b.many, got, e, b.want)
		}
	}
}

// TestExampleOfTheChapter has the table behind C4.
func TestExampleOfTheChapter(t *testing.T) {
	got, e := count.Beads(4, 2)
	wantNumber(t, "Beads(4, 2)", got, e, 6)
	got, e = count.Beads(6, 3)
	wantNumber(t, "Beads(6, 3)", got, e, 130)
	got, e = count.Bracelets(6, 2)
	wantNumber(t, "Bracelets(6, 2)", got, e, 13)
	makers := [][]int{{1, 2, 3, 0}}
	got, e = count.Colourings(4, makers, 2)
	wantNumber(t, "Colourings", got, e, 6)
	got, e = count.Content(4, makers, []int{2, 2})
	wantNumber(t, "Content", got, e, 2)
	rows, e := count.Index(4, makers)
	wantRows(t, "Index", rows, e, [][]int{{1, 4, 0, 0, 0}, {1, 0, 2, 0, 0}, {2, 0, 0, 0, 1}})
}

// answers tells all that is counted of a group, as text.
func answers(m maker, colours int, many []int) string {
	a, e1 := count.Colourings(m.n, m.makers, colours)
	b, e2 := count.Content(m.n, m.makers, many)
	c, e3 := count.Index(m.n, m.makers)
	return fmt.Sprint(a, b, c, []api.Errno{e1, e2, e3})
}

// TestNothingIsWritten has P2 and P4: the lists, and what lies behind their length, stay; and the same is told again.
func TestNothingIsWritten(t *testing.T) {
	fresh := func() ([]int, []int, []int, [][]int) {
		one, two, many := []int{1, 2, 3, 4, 0, -7, 99}, []int{0, 4, 3, 2, 1, 0, 5}, []int{2, 0, 2, 1, 7, -3}
		return one, two, many, [][]int{one[:5], two[:5], {9, 9}, {-1}, nil}
	}
	one, two, many, makers := fresh()
	m := maker{5, makers[:2]}
	first := answers(m, 3, many[:4])
	if second := answers(m, 3, many[:4]); second != first {
		t.Errorf("got %s, then %s", first, second)
	}
	wantOne, wantTwo, wantMany, wantMakers := fresh()
	if !slices.Equal(one, wantOne) || !slices.Equal(two, wantTwo) || !slices.Equal(many, wantMany) || !slices.EqualFunc(makers, wantMakers, slices.Equal) {
		t.Errorf("written into: %v, %v", makers, many)
	}
}

// TestNothingIsWrittenMeanwhile has P2: a content is read by many at once, and none may write into it even for a while (the race detector tells).
func TestNothingIsWrittenMeanwhile(t *testing.T) {
	many, makers := []int{2, 2, 1, 1}, [][]int{turn(6)}
	told := make(chan int)
	for range 8 {
		go func() {
			got, _ := count.Content(6, makers, many)
			told <- got
		}()
	}
	for range 8 {
		if got := <-told; got != 30 {
			t.Errorf("got %d", got)
		}
	}
}

// TestWhatComesOutIsFresh has P2: no two rows share memory, behind their length neither, nor those of two calls.
func TestWhatComesOutIsFresh(t *testing.T) {
	makers := [][]int{turn(7), exchange(7)}
	rows, _ := count.Index(7, makers)
	want, _ := count.Index(7, makers)
	for i, row := range rows {
		if !slices.Equal(row, want[i]) {
			t.Errorf("got %v, want %v", row, want[i])
		}
		for j := range row[:cap(row)] {
			row[:cap(row)][j] = -1
		}
	}
	again, e := count.Index(7, makers)
	wantRows(t, "Index", again, e, want)
	if !slices.Equal(makers[0], turn(7)) || !slices.Equal(makers[1], exchange(7)) {
		t.Errorf("the makers are written into: %v", makers)
	}
}

// TestNoNumberPanics has P1: each face at numbers from end to end, in each place.
func TestNoNumberPanics(t *testing.T) {
	ends := []int{math.MinInt, -1, 0, 1, 2, 3, 7, 8, 200, math.MaxInt}
	for _, n := range ends {
		for _, x := range ends {
			if got, e := count.Beads(n, x); (got == 0) != (e != api.OK) {
				t.Errorf("Beads(%d, %d): got %d, error %d", n, x, got, e)
			}
			if got, e := count.Bracelets(n, x); (got == 0) != (e != api.OK) {
				t.Errorf("Bracelets(%d, %d): got %d, error %d", n, x, got, e)
			}
			for size := range 10 {
				b := stay(size)
				if size > 0 {
					b[size/2] = x
				}
				m := maker{n, [][]int{b}}
				if e := group.Check(n, m.makers); e != api.OK {
					wantError(t, m, e)
				}
				answers(m, x, b)
				answers(maker{n, nil}, x, b)
			}
		}
	}
}
