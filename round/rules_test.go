package round_test

import (
	"fmt"
	"math"
	"slices"
	"testing"

	"parterre/api"
	"parterre/round"
)

// TestExamplesOfTheChapter has the table behind R4.
func TestExamplesOfTheChapter(t *testing.T) {
	rounds, e := round.Circle(4)
	wantRows(t, "Circle of 4", rounds, e, [][]int{{3, 2, 1, 0}, {2, 3, 0, 1}, {1, 0, 3, 2}}, api.OK)
	strong, e := round.Strong(7, [][]int{{2, 3}, {4, 6}, {1, 5}})
	wantTruth(t, "Strong of 7", strong, e, true, api.OK)
}

// roundsText tells all that is asked of rounds, as text.
func roundsText(n int, a, b [][]int) string {
	perfect, e := round.Perfect(n, a)
	rooms, e1 := round.Rooms(n, a, b)
	return fmt.Sprint(round.Check(n, a), perfect, e, rooms, e1)
}

// starterText tells all that is asked of a starter, as text.
func starterText(v int, pairs [][]int) string {
	strong, e := round.Strong(v, pairs)
	rounds, e1 := round.Develop(v, pairs)
	return fmt.Sprint(round.Starter(v, pairs), strong, e, rounds, e1)
}

// padded has room, and other numbers, behind each row, and other rows behind the last.
func padded(rows [][]int) [][]int {
	var out [][]int
	for _, row := range rows {
		out = append(out, append(slices.Clone(row), -7, 99, 0, 1)[:len(row)])
	}
	return append(out, []int{1, 0}, []int{3, 2, 1, 0}, []int{99}, nil)[:len(rows)]
}

// behind tells all that lies in the memory of rows.
func behind(rows [][]int) string {
	var told []any
	for _, row := range rows[:cap(rows)] {
		told = append(told, len(row), row[:cap(row)])
	}
	return fmt.Sprint(told...)
}

// askedRounds are rounds, some of which are wrong.
func askedRounds() []known {
	out := books()
	for _, s := range squares() {
		out = append(out, known{n: len(s[0]) + 1, rounds: s[0]}, known{n: len(s[1]) + 1, rounds: s[1]})
	}
	for _, w := range wrongOnes() {
		out = append(out, known{n: w.n, rounds: w.rounds})
	}
	return append(out, known{n: 2}, known{n: 16}, known{n: 6, rounds: circleOf(6)[:3]})
}

// askedStarters are starters, some of which are wrong.
func askedStarters() []wrongPairs {
	out := wrongStarters()
	for v := 3; v <= 15; v += 2 {
		out = append(out, wrongPairs{v: v, pairs: starters(v)[0]})
	}
	return append(out, wrongPairs{v: 7, pairs: [][]int{{2, 3}, {4, 6}, {1, 5}}})
}

// TestRoundsAreNotWritten has P2 and P4 of the document: the rounds, and what lies behind their length, stay and are not read; and the same is told again.
func TestRoundsAreNotWritten(t *testing.T) {
	for _, k := range askedRounds() {
		for _, second := range [][][]int{k.rounds, circleOf(8)} {
			want := roundsText(k.n, k.rounds, second)
			a, b := padded(k.rounds), padded(second)
			was := behind(a) + behind(b)
			for range 2 {
				if told := roundsText(k.n, a, b); told != want {
					t.Errorf("got %s, want %s", told, want)
				}
			}
			if behind(a)+behind(b) != was {
				t.Errorf("written into: %v, %v", k.rounds, second)
			}
		}
	}
}

// TestStartersAreNotWritten has P2 and P4 of the document, of what starters are asked by.
func TestStartersAreNotWritten(t *testing.T) {
	for _, w := range askedStarters() {
		want := starterText(w.v, w.pairs)
		other := padded(w.pairs)
		was := behind(other)
		for range 2 {
			if told := starterText(w.v, other); told != want {
				t.Errorf("got %s, want %s", told, want)
			}
		}
		if behind(other) != was {
			t.Errorf("written into: %v", w.pairs)
		}
	}
}

// TestSharedMemory has P2 of the document: the lists that are handed in may be one.
func TestSharedMemory(t *testing.T) {
	rounds := circleOf(8)
	if got, want := roundsText(8, rounds, rounds), roundsText(8, circleOf(8), circleOf(8)); got != want {
		t.Errorf("got %s, want %s", got, want)
	}
	two := [][]int{{1, 0}}
	if got, want := roundsText(2, two, two), roundsText(2, circleOf(2), circleOf(2)); got != want {
		t.Errorf("got %s, want %s", got, want)
	}
	row := []int{3, 2, 1, 0}
	if e := round.Check(4, [][]int{row, row}); e != api.ErrTwice {
		t.Errorf("of one row twice: got error %d", e)
	}
	all := []int{2, 3, 4, 6, 1, 5}
	if got, want := starterText(7, cut(all, 2)), starterText(7, [][]int{{2, 3}, {4, 6}, {1, 5}}); got != want {
		t.Errorf("got %s, want %s", got, want)
	}
	if !slices.Equal(all, []int{2, 3, 4, 6, 1, 5}) || !slices.Equal(row, []int{3, 2, 1, 0}) {
		t.Errorf("written into: %v, %v", all, row)
	}
}

// TestNothingIsWrittenMeanwhile has P2 of the document: what is handed in is read by many at once, and none may write into it even for a while (the race detector tells).
func TestNothingIsWrittenMeanwhile(t *testing.T) {
	pairs := [][]int{{2, 3}, {4, 6}, {1, 5}}
	for _, s := range squares() {
		ask := func() string { return roundsText(len(s[0])+1, s[0], s[1]) + starterText(7, pairs) }
		want := ask()
		told := make(chan string)
		for range 8 {
			go func() { told <- ask() }()
		}
		for range 8 {
			if got := <-told; got != want {
				t.Errorf("got %s, want %s", got, want)
			}
		}
	}
}

// TestNothingIsKept has P2 of the document: what is told hangs on what is there now.
func TestNothingIsKept(t *testing.T) {
	a, b, pairs := circleOf(8), circleOf(8), starters(7)[0]
	all := starters(7)
	for i := range 40 {
		next := numbers(i)
		s := squares()[1+i%2]
		nowA, nowB := otherwise(8, s[0], next), s[1]
		if i%3 == 0 {
			nowA = s[0]
		}
		if i%5 == 4 {
			nowA = instead(nowA, next(7), next(8), next(8))
		}
		want := roundsText(8, nowA, nowB)
		for j := range a {
			copy(a[j], nowA[j])
			copy(b[j], nowB[j])
		}
		if got := roundsText(8, a, b); got != want {
			t.Errorf("got %s, want %s", got, want)
		}
		now := strewnStarter(all[i%len(all)], next)
		if i%5 == 4 {
			now = instead(now, next(3), next(2), next(8))
		}
		want = starterText(7, now)
		for j := range pairs {
			copy(pairs[j], now[j])
		}
		if got := starterText(7, pairs); got != want {
			t.Errorf("got %s, want %s", got, want)
		}
	}
}

// spoil writes into all of a list's memory.
func spoil(list []int) {
	list = list[:cap(list)]
	for i := range list {
		list[i] = -5
	}
}

// wantFresh spoils one list of an answer after the other: no other one of it changes, nor what is told next.
func wantFresh(t *testing.T, call string, ask func() ([][]int, api.Errno)) {
	t.Helper()
	got, e := ask()
	want := cloned(got)
	for i := range want {
		got, _ := ask()
		spoil(got[i])
		for j, row := range got {
			if j != i && !slices.Equal(row, want[j]) {
				t.Errorf("%s: list %d is in the memory of list %d", call, j, i)
			}
		}
	}
	clear(got[:cap(got)])
	again, e1 := ask()
	wantRows(t, call+" again", again, e1, want, e)
}

// TestWhatComesOutIsFresh has P2 of the document: whoever writes into what is answered, or behind its length, changes no other list of it, nothing that was handed in, and nothing that is told next.
func TestWhatComesOutIsFresh(t *testing.T) {
	for n := 1; n <= 17; n++ {
		wantFresh(t, name("Circle", n), func() ([][]int, api.Errno) { return round.Circle(n) })
	}
	for _, w := range askedStarters() {
		was := behind(w.pairs)
		wantFresh(t, name("Develop", w.v, w.pairs), func() ([][]int, api.Errno) { return round.Develop(w.v, w.pairs) })
		if behind(w.pairs) != was {
			t.Errorf("what was handed in is written into: %v", w.pairs)
		}
	}
}

// TestEmptyAndNil has P4 of the document: an empty list and nil are the same.
func TestEmptyAndNil(t *testing.T) {
	twos := [][2][][]int{{nil, {}}, {{nil}, {{}}}, {{nil, {}}, {{}, nil}}, {{{1, 0}, nil}, {{1, 0}, {}}}, {{nil, {1, 0}}, {{}, {1, 0}}}}
	for n := -1; n <= 18; n++ {
		for _, two := range twos {
			if a, b := starterText(n, two[0]), starterText(n, two[1]); a != b {
				t.Errorf("got %s and %s", a, b)
			}
			for _, other := range [][][]int{two[0], two[1], {{1, 0}}} {
				if a, b := roundsText(n, two[0], other), roundsText(n, two[1], other); a != b {
					t.Errorf("got %s and %s", a, b)
				}
				if a, b := roundsText(n, other, two[0]), roundsText(n, other, two[1]); a != b {
					t.Errorf("got %s and %s", a, b)
				}
			}
		}
	}
}

// TestNoNumberPanics has P1 of the document: each face at numbers from end to end, in each place.
func TestNoNumberPanics(t *testing.T) {
	ends := []int{math.MinInt, math.MinInt + 1, math.MinInt / 2, -16, -2, -1, 0, 1, 2, 3, 4, 5, 6, 7, 8, 14, 15, 16, 17, 1 << 32, math.MaxInt / 2, math.MaxInt - 1, math.MaxInt}
	for _, x := range ends {
		round.Circle(x)
		for _, y := range ends {
			for _, z := range ends {
				roundsText(x, [][]int{{y, z}}, [][]int{{z, y}})
				roundsText(4, [][]int{{3, 2, 1, 0}, {x, y, z, 1}}, nil)
				roundsText(4, circleOf(4), [][]int{{3, x, y, z}})
				starterText(x, [][]int{{y, z}})
				starterText(5, [][]int{{x, 4}, {y, z}})
			}
			for long := range 18 {
				list := [][]int{slices.Repeat([]int{y}, long)}
				roundsText(x, list, list)
				starterText(x, list)
			}
		}
		for _, many := range []int{0, 1, 6, 7, 8, 14, 15, 16, 1000} {
			roundsText(x, make([][]int, many), make([][]int, many))
			roundsText(x, circleOf(16), make([][]int, many))
			starterText(x, make([][]int, many))
			starterText(x, slices.Repeat([][]int{{1, 2}}, many))
		}
	}
}
