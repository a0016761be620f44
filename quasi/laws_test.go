package quasi_test

import (
	"slices"
	"testing"

	"parterre/api"
	"parterre/latin"
	"parterre/quasi"
)

// TestGroups has Q4: what Associates has a Unit, each element is undone by one on both sides, and the size of each of its Parts divides its Side.
func TestGroups(t *testing.T) {
	told := map[int]int{}
	for _, s := range slices.Concat(small(), great(), loops(5)) {
		if yes, e := quasi.Associates(s); !yes || e != api.OK {
			continue
		}
		told[s.Side]++
		unit, e := quasi.Unit(s)
		if e != api.OK {
			t.Errorf("%s: error %d", name("Unit", s), e)
		}
		for x := range s.Side {
			left, _ := quasi.Left(s, x, unit)
			right, _ := quasi.Right(s, x, unit)
			if left != right {
				t.Errorf("%s: %d is undone by %d and %d", name("Associates", s), x, left, right)
			}
		}
		sets := closedSets(s)
		got, e := quasi.Parts(s)
		wantNumber(t, name("Parts", s), got, e, len(sets))
		for _, set := range sets {
			if s.Side%len(set) != 0 || !slices.Contains(set, unit) {
				t.Errorf("%s: %v is closed", name("Associates", s), set)
			}
		}
	}
	for n := 1; n <= 8; n++ {
		if told[n] == 0 {
			t.Errorf("of %d elements none associates", n)
		}
	}
}

// TestAlikeIsSoBothWays has Q4; what leads there leads back.
func TestAlikeIsSoBothWays(t *testing.T) {
	squares := slices.Concat(all(3), all(4)[:100], slices.DeleteFunc(great(), func(s api.Square) bool { return s.Side > 6 }))
	for _, a := range squares {
		for _, b := range squares {
			there, e := quasi.Alike(a, b)
			back, e1 := quasi.Alike(b, a)
			if e != e1 {
				t.Errorf("%s with %v: error %d, and %d the other way", name("Alike", a), b, e, e1)
			}
			if e == api.OK && (!slices.Equal(renamed(a, there).Cells, b.Cells) || !slices.Equal(renamed(b, back).Cells, a.Cells)) {
				t.Errorf("%s with %v: got %v and %v", name("Alike", a), b, there, back)
			}
		}
	}
}

// TestAlikeOnesAnswerAlike: other names change nothing but the name of the unit.
func TestAlikeOnesAnswerAlike(t *testing.T) {
	truths := []func(api.Square) (bool, api.Errno){quasi.Commutes, quasi.Associates, quasi.Idempotent}
	for i, a := range slices.Concat(all(3), great()) {
		p := mixed(a.Side, i+100)
		b := renamed(a, p)
		for _, ask := range truths {
			one, _ := ask(a)
			other, e := ask(b)
			wantTruth(t, name("truth", b), other, e, one)
		}
		parts, _ := quasi.Parts(a)
		got, e := quasi.Parts(b)
		wantNumber(t, name("Parts", b), got, e, parts)
		unit, e := quasi.Unit(a)
		other, e1 := quasi.Unit(b)
		if e != e1 || e == api.OK && other != p[unit] {
			t.Errorf("%s: got %d, error %d; without other names %d, error %d", name("Unit", b), other, e1, unit, e)
		}
	}
}

// TestTurnedOver: with the order of factors exchanged, Left is Right, and the rest is the same.
func TestTurnedOver(t *testing.T) {
	for _, s := range slices.Concat(small(), great()) {
		over, _ := latin.Conjugate(s, 2)
		one, e := quasi.Unit(s)
		other, e1 := quasi.Unit(over)
		if one != other || e != e1 {
			t.Errorf("%s: got %d, error %d; turned over %d, error %d", name("Unit", s), one, e, other, e1)
		}
		associates, _ := quasi.Associates(s)
		got, e := quasi.Associates(over)
		wantTruth(t, name("Associates", over), got, e, associates)
		parts, _ := quasi.Parts(s)
		number, e := quasi.Parts(over)
		wantNumber(t, name("Parts", over), number, e, parts)
		for a := range s.Side {
			left, _ := quasi.Left(s, a, 0)
			right, e := quasi.Right(over, a, 0)
			wantNumber(t, name("Right", over), right, e, left)
		}
	}
}
