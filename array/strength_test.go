package array_test

import (
	"testing"

	"parterre/api"
	"parterre/array"
)

func wantStrength(t *testing.T, s int, runs [][]int) int {
	t.Helper()
	got, e := array.Strength(s, runs)
	wantNumber(t, name("Strength", s, runs), got, e, strengthOf(s, runs), api.OK)
	return got
}

// TestStrengthOfKnown has A2: what books tell, and what is told by hand.
func TestStrengthOfKnown(t *testing.T) {
	for _, k := range books() {
		got, e := array.Strength(k.s, k.runs)
		wantNumber(t, name("Strength", k.name), got, e, k.strength, api.OK)
		wantNumber(t, name("what the words say", k.name), strengthOf(k.s, k.runs), api.OK, k.strength, api.OK)
	}
}

// TestStrengthOfSome has A2: these, repeated, in another order, with one number otherwise, and strewn ones.
func TestStrengthOfSome(t *testing.T) {
	for _, k := range some() {
		got, e := array.Strength(k.s, k.runs)
		wantNumber(t, name("Strength", k.name, k.s, k.runs), got, e, k.strength, api.OK)
	}
}

// TestStrengthOfAllSmall has A2: all lists of runs of a few sizes.
func TestStrengthOfAllSmall(t *testing.T) {
	found := map[int]int{}
	for _, size := range [][3]int{
		{2, 1, 1}, {2, 1, 2}, {2, 1, 3}, {2, 1, 4}, {2, 1, 5}, {2, 1, 6}, {2, 2, 1}, {2, 2, 2}, {2, 2, 3}, {2, 2, 4}, {2, 2, 5}, {2, 2, 6},
		{2, 3, 1}, {2, 3, 2}, {2, 3, 3}, {2, 3, 4}, {2, 4, 2}, {2, 4, 3}, {3, 1, 3}, {3, 1, 4}, {3, 1, 6}, {3, 2, 2}, {3, 2, 3}, {3, 2, 4}, {4, 1, 4}, {4, 2, 3}, {5, 1, 5},
	} {
		s, width, many := size[0], size[1], size[2]
		for _, list := range lists(power(s, width), many) {
			all := lists(s, width)
			var runs [][]int
			for _, i := range list {
				runs = append(runs, all[i])
			}
			found[wantStrength(t, s, runs)]++
		}
	}
	for strength := range 3 {
		if found[strength] == 0 {
			t.Errorf("no runs of strength %d", strength)
		}
	}
}

// TestStrengthOfMissing has A2: all lists of numbers, less one run, or with one instead of another, so that few columns are far from alike.
func TestStrengthOfMissing(t *testing.T) {
	for _, size := range [][2]int{{2, 2}, {2, 3}, {2, 4}, {2, 5}, {3, 2}, {3, 3}, {4, 2}, {5, 2}} {
		all := lists(size[0], size[1])
		for i := range all {
			less := append(cloned(all[:i]), cloned(all[i+1:])...)
			wantStrength(t, size[0], less)
			for j := range all {
				wantStrength(t, size[0], append(cloned(less), all[j]))
			}
		}
	}
}

// TestStrengthOfEachColumn has A2: of eight columns any may be the one that is not alike, or any two, so that each choice is looked at.
func TestStrengthOfEachColumn(t *testing.T) {
	full := reed()
	for column := range 8 {
		runs := cloned(full)
		for _, run := range runs {
			run[column] = 0
		}
		got, e := array.Strength(2, runs)
		wantNumber(t, name("Strength, a column is 0", column), got, e, 0, api.OK)
		for other := range column {
			runs := cloned(full)
			for _, run := range runs {
				run[column] = run[other]
			}
			got, e := array.Strength(2, runs)
			wantNumber(t, name("Strength, columns are one", other, column), got, e, 1, api.OK)
			for third := range other {
				runs := cloned(full)
				for _, run := range runs {
					run[column] = (run[other] + run[third]) % 2
				}
				got, e := array.Strength(2, runs)
				wantNumber(t, name("Strength, a column is the sum of two", third, other, column), got, e, 2, api.OK)
			}
		}
	}
}

// TestStrengthOfManyLevels has A2: each number of levels, once each, and one of them missing.
func TestStrengthOfManyLevels(t *testing.T) {
	for s := 2; s <= 64; s++ {
		runs := lists(s, 1)
		for i := range runs {
			runs[i] = append(runs[i], s-1-runs[i][0], (runs[i][0]+1)%s)
		}
		got, e := array.Strength(s, runs)
		wantNumber(t, name("Strength", s), got, e, 1, api.OK)
		got, e = array.Strength(s, runs[1:])
		wantNumber(t, name("Strength, one less", s), got, e, 0, api.OK)
		for column := range 3 {
			other := instead(runs, s-1, column, runs[0][column])
			got, e = array.Strength(s, other)
			wantNumber(t, name("Strength, one twice", s, column), got, e, 0, api.OK)
		}
	}
}
