package round_test

import (
	"slices"
	"testing"

	"parterre/api"
	"parterre/round"
)

// wantComplete has rounds of which nothing is wrong, one less than teams, so that each two meet once.
func wantComplete(t *testing.T, call string, n int, rounds [][]int) {
	t.Helper()
	if e := round.Check(n, rounds); e != api.OK || len(rounds) != n-1 {
		t.Errorf("%s: %d rounds of %d teams, error %d", call, len(rounds), n, e)
	}
	for a := range n {
		for b := range n {
			many := 0
			for _, one := range rounds {
				if one[a] == b {
					many++
				}
			}
			if a != b && many != 1 {
				t.Errorf("%s: %d and %d meet %d times", call, a, b, many)
			}
		}
	}
}

// developed is what is developed of a starter, and nothing is wrong.
func developed(t *testing.T, v int, pairs [][]int) [][]int {
	t.Helper()
	rounds, e := round.Develop(v, pairs)
	wantError(t, name("Develop", v, pairs), e, api.OK)
	return rounds
}

// TestLawOfComplete has R4: Circle, and what is developed of a starter, are complete rounds.
func TestLawOfComplete(t *testing.T) {
	for n := 2; n <= 16; n += 2 {
		rounds, e := round.Circle(n)
		wantError(t, name("Circle", n), e, api.OK)
		wantComplete(t, name("Circle", n), n, rounds)
	}
	for v := 3; v <= 15; v += 2 {
		for _, pairs := range starters(v) {
			wantComplete(t, name("Develop", v, pairs), v+1, developed(t, v, pairs))
		}
	}
}

// TestLawOfKotzig has R4: Circle is Perfect, if n - 1 is a prime; if it is another number, and not 1, it is not (a step that has a divisor in common with it closes a ring too soon).
func TestLawOfKotzig(t *testing.T) {
	for n := 2; n <= 16; n += 2 {
		rounds, e := round.Circle(n)
		wantError(t, name("Circle", n), e, api.OK)
		got, e := round.Perfect(n, rounds)
		wantTruth(t, name("Perfect of Circle", n), got, e, n != 10 && n != 16, api.OK)
	}
}

// TestLawOfMullin has R4: what is developed of a Strong starter, and of its opposite, are Rooms; of one that is not they are none, since the sum is how far a pair lies from the opposite one of its difference. With Circle it is the same.
func TestLawOfMullin(t *testing.T) {
	found := map[bool]int{}
	for v := 3; v <= 15; v += 2 {
		circle, e := round.Circle(v + 1)
		wantError(t, name("Circle", v+1), e, api.OK)
		for _, pairs := range starters(v) {
			strong, e := round.Strong(v, pairs)
			wantError(t, name("Strong", v, pairs), e, api.OK)
			found[strong]++
			one := developed(t, v, pairs)
			for _, other := range [][][]int{developed(t, v, oppositeOf(v, pairs)), circle} {
				got, e := round.Rooms(v+1, one, other)
				wantTruth(t, name("Rooms", v+1, one, other), got, e, strong, api.OK)
			}
		}
	}
	if found[true] == 0 || found[false] == 0 {
		t.Errorf("found %v", found)
	}
}

// TestLawOfOpposites follows from R3: the opposite of a starter is a starter, and Strong if that one is; and so is each number times one that has no divisor in common with v.
func TestLawOfOpposites(t *testing.T) {
	for v := 3; v <= 15; v += 2 {
		for _, pairs := range starters(v) {
			strong, e := round.Strong(v, pairs)
			wantError(t, name("Strong", v, pairs), e, api.OK)
			for times := 1; times < v; times++ {
				if v == 9 && times%3 == 0 || v == 15 && (times%3 == 0 || times%5 == 0) {
					continue
				}
				other := cloned(pairs)
				for _, two := range other {
					two[0], two[1] = two[0]*times%v, two[1]*times%v
				}
				got, e := round.Strong(v, other)
				wantTruth(t, name("Strong", v, other), got, e, strong, api.OK)
			}
		}
	}
}

// TestLawOfCircle follows from R2 and R3: Circle is what is developed of the pairs of each number and its opposite.
func TestLawOfCircle(t *testing.T) {
	for v := 3; v <= 15; v += 2 {
		var pairs [][]int
		for x := 1; x < v-x; x++ {
			pairs = append(pairs, []int{x, v - x})
		}
		circle, e := round.Circle(v + 1)
		wantRows(t, name("Circle", v+1), circle, e, developed(t, v, pairs), api.OK)
		strong, e := round.Strong(v, pairs)
		wantTruth(t, name("Strong", v, pairs), strong, e, false, api.OK)
	}
}

// TestLawOfSquares follows from R2: in a Room square of complete rounds each team stands once in each row and in each column, and half of the cells but one in each row are left.
func TestLawOfSquares(t *testing.T) {
	for _, s := range squares() {
		n := len(s[0]) + 1
		got, e := round.Rooms(n, s[0], s[1])
		wantTruth(t, name("Rooms", n), got, e, true, api.OK)
		for i, one := range s[0] {
			filled := 0
			var teams []int
			for _, other := range s[1] {
				for team := range n {
					if one[team] == other[team] {
						teams = append(teams, team)
						filled++
					}
				}
			}
			slices.Sort(teams)
			if len(slices.Compact(teams)) != n || filled != n {
				t.Errorf("row %d of %d: %d filled, teams %v", i, n, filled, teams)
			}
		}
	}
}
