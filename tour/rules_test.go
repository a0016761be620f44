package tour_test

import (
	"fmt"
	"math"
	"slices"
	"testing"

	"parterre/api"
	"parterre/tour"
)

// TestExamplesOfTheChapter has the table behind T4.
func TestExamplesOfTheChapter(t *testing.T) {
	ring := square(3, 0, 1, 0, 0, 0, 1, 1, 0, 0)
	list, e := tour.Path(ring)
	wantList(t, "Path", list, e, []int{0, 1, 2}, api.OK)
	number, e := tour.Paths(ring)
	wantNumber(t, "Paths", number, e, 3, api.OK)
	list, e = tour.Cycle(ring)
	wantList(t, "Cycle", list, e, []int{0, 1, 2}, api.OK)
	number, e = tour.Rings(ring)
	wantNumber(t, "Rings", number, e, 1, api.OK)
	parts, e := tour.Parts(ring)
	wantLists(t, "Parts", parts, e, [][]int{{0, 1, 2}}, api.OK)
	list, e = tour.Kings(ring)
	wantList(t, "Kings", list, e, []int{0, 1, 2}, api.OK)
	could, e := tour.Could([]int{0, 1, 2})
	wantTruth(t, "Could of 0 1 2", could, e, true, api.OK)
	could, e = tour.Could([]int{0, 0, 2})
	wantTruth(t, "Could of 0 0 2", could, e, false, api.OK)
}

func couldText(scores []int) string {
	could, e := tour.Could(scores)
	return fmt.Sprint(could, e)
}

// padded has room, and other numbers, behind its length.
func padded(list []int) []int {
	return append(slices.Clone(list), -7, 1, 0, 99)[:len(list)]
}

// given are tournaments, some of which are wrong.
func given() []api.Square {
	out := append(some(), every(4)...)
	for _, w := range wrongOnes() {
		out = append(out, w.t)
	}
	return out
}

// givenScores are lists of scores, some of which are wrong.
func givenScores() [][]int {
	out := [][]int{nil, {0}, {1}, {0, 1}, {1, 0}, {2, 1, 0}, {2, 0, 0}, {1, 1, 1}, {3, -1, 1}, {0, 0, 3}, {9}, make([]int, 10)}
	for _, s := range some() {
		out = append(out, scoresOf(s))
	}
	return out
}

// TestNothingIsWritten has P2 and P4 of the document: what is handed in, and what lies behind its length, stays and is not read; and the same is told again.
func TestNothingIsWritten(t *testing.T) {
	for _, s := range given() {
		want := told(s)
		other := api.Square{Side: s.Side, Cells: padded(s.Cells)}
		was := slices.Clone(other.Cells[:cap(other.Cells)])
		for range 2 {
			if got := told(other); got != want {
				t.Errorf("got %s, want %s", got, want)
			}
		}
		if !slices.Equal(other.Cells[:cap(other.Cells)], was) {
			t.Errorf("written into: %v", s)
		}
	}
	for _, scores := range givenScores() {
		want := couldText(scores)
		other := padded(scores)
		was := slices.Clone(other[:cap(other)])
		for range 2 {
			if got := couldText(other); got != want {
				t.Errorf("got %s, want %s", got, want)
			}
		}
		if !slices.Equal(other[:cap(other)], was) {
			t.Errorf("written into: %v", scores)
		}
	}
}

// TestNothingIsWrittenMeanwhile has P2 of the document: what is handed in is read by many at once, and none may write into it even for a while (the race detector tells).
func TestNothingIsWrittenMeanwhile(t *testing.T) {
	scores := []int{4, 0, 3, 1, 2}
	for _, s := range []api.Square{circle(5), squares(), falling(9), rising(3)} {
		ask := func() string { return told(s) + couldText(scores) }
		want := ask()
		answers := make(chan string)
		for range 8 {
			go func() { answers <- ask() }()
		}
		for range 8 {
			if got := <-answers; got != want {
				t.Errorf("got %s, want %s", got, want)
			}
		}
	}
}

// TestNothingIsKept has P2 of the document: what is told hangs on what is there now.
func TestNothingIsKept(t *testing.T) {
	next := numbers(3)
	s, scores := strewn(6, next), make([]int, 6)
	for i := range 60 {
		now := strewn(6, next)
		if i%5 == 4 {
			now = instead(now, next(36), next(3))
		}
		want := told(now)
		copy(s.Cells, now.Cells)
		if got := told(s); got != want {
			t.Errorf("got %s, want %s", got, want)
		}
		list := scoresOf(now)
		if i%3 == 2 {
			list[next(6)] = next(7)
		}
		want = couldText(list)
		copy(scores, list)
		if got := couldText(scores); got != want {
			t.Errorf("got %s, want %s", got, want)
		}
	}
}

// spoil writes into all of a list's memory.
func spoil(list []int) {
	list = list[:cap(list)]
	for i := range list {
		list[i] = -5
	}
}

// TestWhatComesOutIsFresh has P2 of the document: whoever writes into what is answered, or behind its length, changes nothing that was handed in, and nothing that is told next.
func TestWhatComesOutIsFresh(t *testing.T) {
	for _, s := range given() {
		want, was := told(s), slices.Clone(s.Cells)
		for _, ask := range []func(api.Square) ([]int, api.Errno){tour.Scores, tour.Kings, tour.Path, tour.Cycle} {
			list, _ := ask(s)
			spoil(list)
			if got := told(s); got != want || !slices.Equal(s.Cells, was) {
				t.Errorf("got %s, want %s", got, want)
			}
		}
	}
}

// TestPartsAreFresh has P2 of the document: whoever writes into one part, or behind its length, changes no other one, nothing that was handed in, and nothing that is told next.
func TestPartsAreFresh(t *testing.T) {
	for _, s := range given() {
		parts, e := tour.Parts(s)
		want, was := cloned(parts), slices.Clone(s.Cells)
		for i := range want {
			parts, _ := tour.Parts(s)
			spoil(parts[i])
			for j, part := range parts {
				if j != i && !slices.Equal(part, want[j]) {
					t.Errorf("%v: part %d is in the memory of part %d", s, j, i)
				}
			}
			grown := append(parts[i], 77)
			if i+1 < len(parts) && !slices.Equal(parts[i+1], want[i+1]) {
				t.Errorf("%v: what is laid behind part %d stands in the next: %v", s, i, grown)
			}
		}
		clear(parts[:cap(parts)])
		again, e1 := tour.Parts(s)
		wantLists(t, name("Parts again", s), again, e1, want, e)
		if !slices.Equal(s.Cells, was) {
			t.Errorf("what was handed in is written into: %v", s)
		}
	}
}

// TestEmptyAndNil has P4 of the document: an empty list and nil are the same.
func TestEmptyAndNil(t *testing.T) {
	for side := -2; side <= 11; side++ {
		a, b := told(api.Square{Side: side}), told(api.Square{Side: side, Cells: []int{}})
		if a != b {
			t.Errorf("got %s and %s", a, b)
		}
	}
	if a, b := couldText(nil), couldText([]int{}); a != b {
		t.Errorf("got %s and %s", a, b)
	}
}

// TestNoNumberPanics has P1 of the document: each face at numbers from end to end, in each place.
func TestNoNumberPanics(t *testing.T) {
	ends := []int{math.MinInt, math.MinInt + 1, math.MinInt / 2, -9, -2, -1, 0, 1, 2, 3, 4, 8, 9, 10, 1 << 31, 1 << 32, 3 << 32, math.MaxInt / 2, math.MaxInt - 1, math.MaxInt}
	for _, x := range ends {
		for _, y := range ends {
			for many := range 12 {
				told(square(x, slices.Repeat([]int{y}, many)...))
				couldText(slices.Repeat([]int{x, y}, many))
			}
			told(square(x, circle(3).Cells...))
			told(square(x, falling(9).Cells...))
			told(square(2, 0, x, y, 0))
			told(square(2, x, 0, 1, y))
			for place := range 9 {
				told(instead(instead(circle(3), place, x), 8-place, y))
			}
			for _, z := range ends {
				couldText([]int{x, y, z})
			}
		}
	}
}
