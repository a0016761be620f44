package tour_test

import (
	"slices"
	"testing"

	"parterre/api"
	"parterre/tour"
)

// asked are all tournaments of up to six players, and some of all sizes.
func asked() []api.Square {
	out := some()
	for n := 1; n <= 6; n++ {
		out = append(out, every(n)...)
	}
	return out
}

// TestScores has T2, of all tournaments of up to six players and some of all sizes.
func TestScores(t *testing.T) {
	for _, s := range asked() {
		got, e := tour.Scores(s)
		wantList(t, name("Scores", s), got, e, scoresOf(s), api.OK)
	}
}

// TestScoresOfSome has T2, of tournaments whose scores are plain.
func TestScoresOfSome(t *testing.T) {
	down := []int{8, 7, 6, 5, 4, 3, 2, 1, 0}
	for n := 1; n <= 9; n++ {
		got, e := tour.Scores(falling(n))
		wantList(t, name("Scores", falling(n)), got, e, down[9-n:], api.OK)
		up := slices.Clone(down[9-n:])
		slices.Reverse(up)
		got, e = tour.Scores(rising(n))
		wantList(t, name("Scores", rising(n)), got, e, up, api.OK)
	}
	got, e := tour.Scores(stacked(circle(3), circle(5)))
	wantList(t, "Scores of a three ahead of a five", got, e, []int{6, 6, 6, 2, 2, 2, 2, 2}, api.OK)
}

// TestKings has T2, of all tournaments of up to six players and some of all sizes.
func TestKings(t *testing.T) {
	found := map[int]int{}
	for _, s := range asked() {
		want := kingsOf(s)
		got, e := tour.Kings(s)
		wantList(t, name("Kings", s), got, e, want, api.OK)
		found[len(want)]++
	}
	for many := range 10 {
		if (found[many] == 0) != (many == 0 || many == 2) { // two alone there never are (Maurer)
			t.Errorf("%d tournaments of %d kings", found[many], many)
		}
	}
}

// TestKingsOfSome has T2: who beats all is the only one; in a ring all are; and of parts the first has all.
func TestKingsOfSome(t *testing.T) {
	got, e := tour.Kings(square(1, 0))
	wantList(t, "Kings of one player", got, e, []int{0}, api.OK)
	for n := 2; n <= 9; n++ {
		got, e = tour.Kings(falling(n))
		wantList(t, name("Kings", falling(n)), got, e, []int{0}, api.OK)
		got, e = tour.Kings(rising(n))
		wantList(t, name("Kings", rising(n)), got, e, []int{n - 1}, api.OK)
	}
	all := []int{0, 1, 2, 3, 4, 5, 6, 7, 8}
	for n := 1; n <= 9; n += 2 {
		got, e = tour.Kings(circle(n))
		wantList(t, name("Kings", circle(n)), got, e, all[:n], api.OK)
	}
	got, e = tour.Kings(renamed(stacked(circle(3), circle(5)), []int{6, 1, 4, 0, 2, 3, 5, 7}))
	wantList(t, "Kings of a three ahead of a five", got, e, []int{1, 4, 6}, api.OK)
	long := square(4, 0, 1, 0, 0, 0, 0, 1, 0, 1, 0, 0, 1, 1, 1, 0, 0) // 0 beats 1 beats 2 beats 3
	got, e = tour.Kings(long)
	wantList(t, name("Kings", long), got, e, []int{1, 2, 3}, api.OK)
}

// TestRings has T2, of all tournaments of up to six players and some of all sizes.
func TestRings(t *testing.T) {
	for _, s := range asked() {
		got, e := tour.Rings(s)
		wantNumber(t, name("Rings", s), got, e, ringsOf(s), api.OK)
	}
}

// TestRingsOfSome has T2: none, if nobody is beaten by one behind him, and so many as there can be, if all have as many.
func TestRingsOfSome(t *testing.T) {
	for n := 1; n <= 9; n++ {
		got, e := tour.Rings(falling(n))
		wantNumber(t, name("Rings", falling(n)), got, e, 0, api.OK)
		got, e = tour.Rings(rising(n))
		wantNumber(t, name("Rings", rising(n)), got, e, 0, api.OK)
	}
	for n, want := range map[int]int{1: 0, 3: 1, 5: 5, 7: 14, 9: 30} {
		got, e := tour.Rings(circle(n))
		wantNumber(t, name("Rings", circle(n)), got, e, want, api.OK)
	}
	got, e := tour.Rings(squares())
	wantNumber(t, "Rings of squares", got, e, 14, api.OK)
	got, e = tour.Rings(stacked(circle(3), circle(5)))
	wantNumber(t, "Rings of a three ahead of a five", got, e, 6, api.OK)
}
