package triple_test

import (
	"testing"

	"parterre/triple"
)

// TestPasses has T4's first: of all sets of four blocks.
func TestPasses(t *testing.T) {
	for _, d := range systems() {
		got, e := triple.Passes(d)
		wantNumber(t, name("Passes", d), got, e, passes(d))
	}
}

// TestPassesOfTheBooks has T4's first: what is known.
func TestPassesOfTheBooks(t *testing.T) {
	for _, b := range books() {
		got, e := triple.Passes(b.d)
		wantNumber(t, "Passes of "+b.name, got, e, b.passes)
	}
}

// TestPassesOfAllSmall has T4's first: all of seven points have seven, all of nine none.
func TestPassesOfAllSmall(t *testing.T) {
	for v, want := range map[int]int{1: 0, 3: 0, 7: 7, 9: 0} {
		for _, d := range allOf(v) {
			got, e := triple.Passes(d)
			wantNumber(t, name("Passes", d), got, e, want)
		}
	}
}

// TestPassesOfTheMade has T4's first: what Bose makes has just such sets as lie in seven places (so of 21 points some, else none).
func TestPassesOfTheMade(t *testing.T) {
	for v, want := range map[int]int{3: 0, 9: 0, 15: 0, 21: 42, 27: 0, 33: 0, 7: 7, 13: 13, 19: 25, 25: 34, 31: 43} {
		got, e := triple.Passes(made(v))
		wantNumber(t, name("Passes", made(v)), got, e, want)
	}
}
