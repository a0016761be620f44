package tour_test

import (
	"slices"
	"testing"

	"parterre/api"
	"parterre/tour"
)

// TestLawOfRedei has T4: Paths are an odd number.
func TestLawOfRedei(t *testing.T) {
	for _, s := range asked() {
		many, e := tour.Paths(s)
		if many%2 != 1 || e != api.OK {
			t.Errorf("%v: %d paths, error %d", s, many, e)
		}
	}
}

// TestLawOfCamion has T4: there is a Cycle just if there is one part, of 1 player, or of 3 or more.
func TestLawOfCamion(t *testing.T) {
	found := map[api.Errno]int{}
	for _, s := range asked() {
		parts, e := tour.Parts(s)
		wantError(t, name("Parts", s), e, api.OK)
		want := api.ErrNone
		if len(parts) == 1 {
			want = api.OK
			if s.Side == 2 {
				t.Errorf("%v: one part", s)
			}
		}
		_, e = tour.Cycle(s)
		wantError(t, name("Cycle", s), e, want)
		found[e]++
	}
	if found[api.OK] == 0 || found[api.ErrNone] == 0 {
		t.Errorf("found %v", found)
	}
}

// TestLawOfKings has T4: who has the greatest Score is a King; and (Moon) who is beaten is beaten by one.
func TestLawOfKings(t *testing.T) {
	for _, s := range asked() {
		scores, e := tour.Scores(s)
		wantError(t, name("Scores", s), e, api.OK)
		kings, e := tour.Kings(s)
		wantError(t, name("Kings", s), e, api.OK)
		for player, score := range scores {
			if score == slices.Max(scores) && !slices.Contains(kings, player) {
				t.Errorf("%v: %d is no king", s, player)
			}
			beaten := slices.ContainsFunc(kings, func(king int) bool { return s.Cells[king*s.Side+player] == 1 })
			if score < s.Side-1 && !beaten {
				t.Errorf("%v: no king beats %d", s, player)
			}
		}
	}
}

// TestLawOfKendallAndSmith has T4: Rings are all sets of three, less, for each player, the pairs of those whom he beats.
func TestLawOfKendallAndSmith(t *testing.T) {
	for _, s := range asked() {
		scores, e := tour.Scores(s)
		wantError(t, name("Scores", s), e, api.OK)
		want := s.Side * (s.Side - 1) * (s.Side - 2) / 6
		for _, score := range scores {
			want -= score * (score - 1) / 2
		}
		got, e := tour.Rings(s)
		wantNumber(t, name("Rings", s), got, e, want, api.OK)
	}
}

// landau goes by T4's words: each k scores, and all.
func landau(scores []int) bool {
	n := len(scores)
	for set := range 1 << n {
		many, sum := 0, 0
		for player, score := range scores {
			if set>>player&1 == 1 {
				many++
				sum += score
			}
		}
		if sum < many*(many-1)/2 || many == n && sum != n*(n-1)/2 {
			return false
		}
	}
	return true
}

// TestLawOfLandau has T4: Could is so just if each k scores are together k (k - 1) / 2 at least, and all of n are n (n - 1) / 2.
func TestLawOfLandau(t *testing.T) {
	for n := 1; n <= 8; n++ {
		for _, scores := range risingLists(0, n-1, n) {
			got, e := tour.Could(scores)
			wantTruth(t, name("Could", scores), got, e, landau(scores), api.OK)
		}
	}
	next := numbers(7)
	for range 2000 {
		n := 1 + next(9)
		var scores []int
		for range n {
			scores = append(scores, next(n))
		}
		got, e := tour.Could(scores)
		wantTruth(t, name("Could", scores), got, e, landau(scores), api.OK)
	}
}

// TestLawOfScores follows from T3: what Scores tells could be.
func TestLawOfScores(t *testing.T) {
	for _, s := range asked() {
		scores, e := tour.Scores(s)
		wantError(t, name("Scores", s), e, api.OK)
		got, e := tour.Could(scores)
		wantTruth(t, name("Could", scores), got, e, true, api.OK)
	}
}

// TestLawOfTurned follows from T2 and T3: where each beats those who beat him, all lists are there from their ends, so that there are as many, as many rings, and the same parts the other way round.
func TestLawOfTurned(t *testing.T) {
	for _, s := range some() {
		back := turned(s)
		many, e := tour.Paths(s)
		got, e1 := tour.Paths(back)
		wantNumber(t, name("Paths", back), got, e1, many, e)
		many, e = tour.Rings(s)
		got, e1 = tour.Rings(back)
		wantNumber(t, name("Rings", back), got, e1, many, e)
		parts, e := tour.Parts(s)
		slices.Reverse(parts)
		gotParts, e1 := tour.Parts(back)
		wantLists(t, name("Parts", back), gotParts, e1, parts, e)
		_, e = tour.Cycle(s)
		_, e1 = tour.Cycle(back)
		wantError(t, name("Cycle", back), e1, e)
	}
}

// TestLawOfNames follows from T2 and T3: players of other names have as many paths and rings, and Scores, Kings and Parts of those names.
func TestLawOfNames(t *testing.T) {
	for start, s := range some() {
		names := strewnOrder(s.Side, numbers(start))
		other := renamed(s, names)
		many, e := tour.Paths(s)
		got, e1 := tour.Paths(other)
		wantNumber(t, name("Paths", other), got, e1, many, e)
		many, e = tour.Rings(s)
		got, e1 = tour.Rings(other)
		wantNumber(t, name("Rings", other), got, e1, many, e)
		kings, e := tour.Kings(s)
		gotKings, e1 := tour.Kings(other)
		wantList(t, name("Kings", other), gotKings, e1, namedBy(kings, names), e)
		parts, e := tour.Parts(s)
		for i := range parts {
			parts[i] = namedBy(parts[i], names)
		}
		gotParts, e1 := tour.Parts(other)
		wantLists(t, name("Parts", other), gotParts, e1, parts, e)
		scores, e := tour.Scores(s)
		want := make([]int, s.Side)
		for player, score := range scores {
			want[names[player]] = score
		}
		gotScores, e1 := tour.Scores(other)
		wantList(t, name("Scores", other), gotScores, e1, want, e)
	}
}

// namedBy has the other names, rising.
func namedBy(players, names []int) []int {
	var out []int
	for _, player := range players {
		out = append(out, names[player])
	}
	slices.Sort(out)
	return out
}

// TestLawOfStacks follows from T2 and T3: where all of one tournament beat all of another, a path goes through the one and then through the other; rings are in one of them, and so are parts; who is a King of the first is one; and nobody comes back.
func TestLawOfStacks(t *testing.T) {
	for n := 2; n <= 9; n++ {
		next := numbers(n + 50)
		for first := 1; first < n; first++ {
			a, b := strewn(first, next), strewn(n-first, next)
			s := stacked(a, b)
			one, e := tour.Paths(a)
			wantError(t, name("Paths", a), e, api.OK)
			two, e := tour.Paths(b)
			wantError(t, name("Paths", b), e, api.OK)
			got, e := tour.Paths(s)
			wantNumber(t, name("Paths", s), got, e, one*two, api.OK)
			one, _ = tour.Rings(a)
			two, _ = tour.Rings(b)
			got, e = tour.Rings(s)
			wantNumber(t, name("Rings", s), got, e, one+two, api.OK)
			kings, _ := tour.Kings(a)
			gotKings, e := tour.Kings(s)
			wantList(t, name("Kings", s), gotKings, e, kings, api.OK)
			path, _ := tour.Path(a)
			rest, _ := tour.Path(b)
			gotPath, e := tour.Path(s)
			wantList(t, name("Path", s), gotPath, e, append(path, further(rest, first)...), api.OK)
			parts, _ := tour.Parts(a)
			more, _ := tour.Parts(b)
			for _, part := range more {
				parts = append(parts, further(part, first))
			}
			gotParts, e := tour.Parts(s)
			wantLists(t, name("Parts", s), gotParts, e, parts, api.OK)
			_, e = tour.Cycle(s)
			wantError(t, name("Cycle", s), e, api.ErrNone)
		}
	}
}

// further has each player so many numbers on.
func further(players []int, by int) []int {
	var out []int
	for _, player := range players {
		out = append(out, player+by)
	}
	return out
}
