package quasi_test

import (
	"fmt"
	"math"
	"slices"
	"testing"

	"parterre/api"
	"parterre/latin"
	"parterre/quasi"
)

// TestExampleOfTheChapter has the table behind Q4.
func TestExampleOfTheChapter(t *testing.T) {
	three, _ := latin.Cyclic(3)
	got, e := quasi.Unit(three)
	wantNumber(t, "Unit of Cyclic of 3", got, e, 0)
	got, e = quasi.Left(three, 1, 0)
	wantNumber(t, "Left of Cyclic of 3, 1, 0", got, e, 2)
	got, e = quasi.Parts(three)
	wantNumber(t, "Parts of Cyclic of 3", got, e, 2)
	p, e := quasi.Alike(three, three)
	wantList(t, "Alike of Cyclic of 3", p, e, []int{0, 1, 2})
}

// wrong is a square, and what is wrong with it.
type wrong struct {
	s    api.Square
	want api.Errno
}

// wrongOnes has each error of L1, where several are wrong the one that is said first.
func wrongOnes() []wrong {
	cells := func(c ...int) []int { return c }
	return []wrong{
		{api.Square{}, api.ErrRange},
		{api.Square{Side: 0, Cells: cells(0)}, api.ErrRange},
		{api.Square{Side: -2, Cells: cells(0, 1, 1, 0)}, api.ErrRange},
		{api.Square{Side: 9}, api.ErrRange},
		{cyclic(9), api.ErrRange},
		{api.Square{Side: math.MaxInt, Cells: cells(0)}, api.ErrRange},
		{api.Square{Side: math.MinInt}, api.ErrRange},
		{api.Square{Side: 1 << 32}, api.ErrRange},
		{api.Square{Side: 1}, api.ErrShape},
		{api.Square{Side: 8}, api.ErrShape},
		{api.Square{Side: 2, Cells: cells(0, 1, 1)}, api.ErrShape},
		{api.Square{Side: 2, Cells: cells(0, 1, 1, 0, 2)}, api.ErrShape},
		{api.Square{Side: 3, Cells: cells(0, 0, 9, 0)}, api.ErrShape},
		{api.Square{Side: 7, Cells: cyclic(8).Cells}, api.ErrShape},
		{api.Square{Side: 1, Cells: cells(1)}, api.ErrRange},
		{api.Square{Side: 2, Cells: cells(0, 1, 1, -1)}, api.ErrRange},
		{api.Square{Side: 2, Cells: cells(0, 0, 0, 2)}, api.ErrRange},
		{api.Square{Side: 2, Cells: cells(math.MinInt, 1, 1, math.MaxInt)}, api.ErrRange},
		{api.Square{Side: 2, Cells: cells(0, 1, 0, 1)}, api.ErrTwice},
		{api.Square{Side: 2, Cells: cells(0, 0, 1, 1)}, api.ErrTwice},
		{api.Square{Side: 8, Cells: make([]int, 64)}, api.ErrTwice},
	}
}

// TestCheckFirst has Q1: what latin's Check says comes ahead of all else, and nothing beside it (P1).
func TestCheckFirst(t *testing.T) {
	for _, w := range wrongOnes() {
		if e := latin.Check(w.s); e != w.want {
			t.Fatalf("%s: got %d, want %d", name("Check", w.s), e, w.want)
		}
		got, e := quasi.Unit(w.s)
		wantNoNumber(t, name("Unit", w.s), got, e, w.want)
		got, e = quasi.Parts(w.s)
		wantNoNumber(t, name("Parts", w.s), got, e, w.want)
		yes, e := quasi.Commutes(w.s)
		wantNoTruth(t, name("Commutes", w.s), yes, e, w.want)
		yes, e = quasi.Associates(w.s)
		wantNoTruth(t, name("Associates", w.s), yes, e, w.want)
		yes, e = quasi.Idempotent(w.s)
		wantNoTruth(t, name("Idempotent", w.s), yes, e, w.want)
		for _, x := range []int{0, 1, -1, 8, math.MinInt, math.MaxInt} {
			got, e = quasi.Left(w.s, x, 0)
			wantNoNumber(t, name("Left", w.s), got, e, w.want)
			got, e = quasi.Left(w.s, 0, x)
			wantNoNumber(t, name("Left", w.s), got, e, w.want)
			got, e = quasi.Right(w.s, x, 0)
			wantNoNumber(t, name("Right", w.s), got, e, w.want)
			got, e = quasi.Right(w.s, 0, x)
			wantNoNumber(t, name("Right", w.s), got, e, w.want)
		}
	}
}

// TestCheckOfTheFirstFirst has Q1: of two squares the first is looked at first, and both ahead of ErrShape and ErrFull.
func TestCheckOfTheFirstFirst(t *testing.T) {
	for _, w := range wrongOnes() {
		for n := 1; n <= 8; n++ {
			got, e := quasi.Alike(cyclic(n), w.s)
			wantNoList(t, name("Alike with", w.s), got, e, w.want)
			got, e = quasi.Alike(w.s, cyclic(n))
			wantNoList(t, name("Alike", w.s), got, e, w.want)
		}
		for _, other := range wrongOnes() {
			got, e := quasi.Alike(w.s, other.s)
			wantNoList(t, name("Alike", w.s), got, e, w.want)
		}
	}
}

// TestNoElements has Q1's ErrRange: either of the two, or both.
func TestNoElements(t *testing.T) {
	for n := 1; n <= 8; n++ {
		s := shuffled(cyclic(n), n)
		for _, bad := range []int{-1, n, n + 1, n * n, 1 << 32, -1 << 32, math.MinInt, math.MaxInt} {
			for _, x := range []int{0, n - 1, bad, -bad} {
				for _, pair := range [][2]int{{x, bad}, {bad, x}} {
					got, e := quasi.Left(s, pair[0], pair[1])
					wantNoNumber(t, name("Left", s)+fmt.Sprint(pair), got, e, api.ErrRange)
					got, e = quasi.Right(s, pair[0], pair[1])
					wantNoNumber(t, name("Right", s)+fmt.Sprint(pair), got, e, api.ErrRange)
				}
			}
		}
	}
}

// answers tells all that is asked of two squares and two elements, as text.
func answers(a, b api.Square, x, y int) string {
	var told []any
	for _, s := range []api.Square{a, b} {
		for _, ask := range []func(api.Square) (int, api.Errno){quasi.Unit, quasi.Parts} {
			got, e := ask(s)
			told = append(told, got, e)
		}
		for _, ask := range []func(api.Square) (bool, api.Errno){quasi.Commutes, quasi.Associates, quasi.Idempotent} {
			got, e := ask(s)
			told = append(told, got, e)
		}
		for _, ask := range []func(api.Square, int, int) (int, api.Errno){quasi.Left, quasi.Right} {
			got, e := ask(s, x, y)
			told = append(told, got, e)
		}
	}
	got, e := quasi.Alike(a, b)
	return fmt.Sprint(append(told, got, e)...)
}

// TestNothingIsWritten has P2 and P4: the lists, and what lies behind their length, stay; and the same is told again.
func TestNothingIsWritten(t *testing.T) {
	fresh := func() (one, other []int) {
		return append(cyclic(5).Cells, -7, 99, 3), append(renamed(cyclic(5), mixed(5, 1)).Cells, 2, -1)
	}
	one, other := fresh()
	a, b := api.Square{Side: 5, Cells: one[:25]}, api.Square{Side: 5, Cells: other[:25]}
	for x := range 5 {
		told := answers(a, b, x, 4-x)
		if again := answers(a, b, x, 4-x); again != told {
			t.Errorf("got %s, then %s", told, again)
		}
	}
	wantOne, wantOther := fresh()
	if !slices.Equal(one, wantOne) || !slices.Equal(other, wantOther) {
		t.Errorf("written into: %v, %v", one, other)
	}
}

// TestNothingIsWrittenMeanwhile has P2: squares are read by many at once, and none may write into them even for a while (the race detector tells).
func TestNothingIsWrittenMeanwhile(t *testing.T) {
	a, b := sixth(), renamed(sixth(), mixed(6, 2))
	want := answers(a, b, 3, 1)
	told := make(chan string)
	for range 8 {
		go func() { told <- answers(a, b, 3, 1) }()
	}
	for range 8 {
		if got := <-told; got != want {
			t.Errorf("got %s, want %s", got, want)
		}
	}
}

// TestNothingIsKept has P2: what is told hangs on what the square has now.
func TestNothingIsKept(t *testing.T) {
	s := cyclic(6)
	for start := range 5 {
		copy(s.Cells, renamed(sixth(), mixed(6, start)).Cells)
		got, e := quasi.Unit(s)
		wantNumber(t, name("Unit", s), got, e, units(s)[0])
		yes, e := quasi.Commutes(s)
		wantTruth(t, name("Commutes", s), yes, e, false)
		copy(s.Cells, cyclic(6).Cells)
		got, e = quasi.Parts(s)
		wantNumber(t, name("Parts", s), got, e, 4)
		yes, e = quasi.Commutes(s)
		wantTruth(t, name("Commutes", s), yes, e, true)
	}
}

// TestWhatComesOutIsFresh has P2: whoever writes into an answer, or behind its length, changes neither what was handed in nor what is told next.
func TestWhatComesOutIsFresh(t *testing.T) {
	a, b := cyclic(6), renamed(cyclic(6), mixed(6, 4))
	got, e := quasi.Alike(a, b)
	if e != api.OK {
		t.Fatalf("Alike: error %d", e)
	}
	want := slices.Clone(got)
	behind := got[:cap(got)]
	for i := range behind {
		behind[i] = -1
	}
	again, e := quasi.Alike(a, b)
	wantList(t, "Alike", again, e, want)
	if !slices.Equal(a.Cells, cyclic(6).Cells) || !slices.Equal(b.Cells, renamed(cyclic(6), mixed(6, 4)).Cells) {
		t.Errorf("what was handed in is written into: %v, %v", a, b)
	}
}

// TestNoNumberPanics has P1: each face at numbers from end to end, in each place.
func TestNoNumberPanics(t *testing.T) {
	ends := []int{math.MinInt, -1, 0, 1, 2, 3, 7, 8, 9, 1 << 32, math.MaxInt}
	for _, n := range ends {
		for _, x := range ends {
			for long := range 10 {
				cells := stay(long)
				if long > 0 {
					cells[long/2] = x
				}
				s := api.Square{Side: n, Cells: cells}
				answers(s, api.Square{Side: x, Cells: cells}, n, x)
				answers(cyclic(3), s, n, x)
				answers(s, cyclic(1), x, n)
			}
			answers(cyclic(8), bitwise(8), n, x)
		}
	}
}
