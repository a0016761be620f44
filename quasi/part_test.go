package quasi_test

import (
	"fmt"
	"slices"
	"testing"

	"parterre/api"
	"parterre/quasi"
)

// TestPartsOneByOne has Q3: all quasigroups of up to 4 elements, and many greater ones.
func TestPartsOneByOne(t *testing.T) {
	for _, s := range slices.Concat(small(), great(), loops(5)) {
		got, e := quasi.Parts(s)
		wantNumber(t, name("Parts", s), got, e, len(closedSets(s)))
	}
}

// TestPartsOfTheBooks has Q3: subgroups of groups, where the whole one counts and the empty set does not; points, lines and the whole plane.
func TestPartsOfTheBooks(t *testing.T) {
	for i, want := range []int{1, 2, 2, 3, 2, 4, 2, 4} {
		got, e := quasi.Parts(cyclic(i + 1))
		wantNumber(t, fmt.Sprint("Parts of Cyclic of ", i+1), got, e, want)
	}
	for _, x := range []struct {
		s    api.Square
		want int
	}{
		{bitwise(4), 5}, {bitwise(8), 16}, {sixth(), 6}, {turns(), 10}, {quaternions(), 6}, {fano(), 15}, {middle(3), 4}, {middle(5), 6}, {middle(7), 8}, {mirror(5), 6}, {affine(), 5},
	} {
		for start := range 5 {
			s := renamed(x.s, mixed(x.s.Side, start))
			got, e := quasi.Parts(s)
			wantNumber(t, name("Parts", s), got, e, x.want)
		}
	}
}

// TestPartsOfOneAlone has Q3: there are quasigroups of which no part but the whole is closed.
func TestPartsOfOneAlone(t *testing.T) {
	for _, s := range []api.Square{
		{Side: 3, Cells: []int{1, 0, 2, 0, 2, 1, 2, 1, 0}},
		table(3, func(x, y int) int { return (7 - x - y) % 3 }),
		{Side: 4, Cells: []int{1, 0, 2, 3, 0, 2, 3, 1, 2, 3, 1, 0, 3, 1, 0, 2}},
	} {
		got, e := quasi.Parts(s)
		wantNumber(t, name("Parts", s), got, e, 1)
	}
}

// TestAlikeOneByOne has Q3: each two quasigroups of up to 3 elements, and many of 4.
func TestAlikeOneByOne(t *testing.T) {
	told := map[int]int{}
	for n := 1; n <= 4; n++ {
		squares := all(n)
		for i, a := range squares {
			if n == 4 && i%16 != 0 {
				continue
			}
			for _, b := range squares {
				wantAlike(t, a, b)
				if len(alike(a, b)) > 0 {
					told[n]++
				}
			}
		}
	}
	if told[1] != 1 || told[2] != 4 || told[3] == 0 || told[4] == 0 {
		t.Errorf("so many are alike: %v", told)
	}
}

// wantAlike tries all other names.
func wantAlike(t *testing.T, a, b api.Square) {
	t.Helper()
	got, e := quasi.Alike(a, b)
	if want := alike(a, b); len(want) > 0 {
		wantList(t, name("Alike", a)+fmt.Sprint(" with ", b.Cells), got, e, want[0])
	} else {
		wantNoList(t, name("Alike", a)+fmt.Sprint(" with ", b.Cells), got, e, api.ErrNone)
	}
}

// TestAlikeOfGreat has Q3: of 5 and 6 elements, with other names and with others.
func TestAlikeOfGreat(t *testing.T) {
	squares := slices.DeleteFunc(great(), func(s api.Square) bool { return s.Side > 6 })
	for i, a := range squares {
		for _, b := range squares {
			if a.Side == b.Side {
				wantAlike(t, a, b)
			}
		}
		for start := range 4 {
			wantAlike(t, a, renamed(a, mixed(a.Side, 7*i+start)))
		}
	}
}

// TestAlikeGoesFromTheFirst has Q3: p names the elements of a by those of b, and not the other way round; where one has no other names for itself, just one p may be.
func TestAlikeGoesFromTheFirst(t *testing.T) {
	told := 0
	for _, s := range slices.Concat(all(3), all(4)) {
		if len(alike(s, s)) > 1 {
			continue
		}
		told++
		for _, p := range [][]int{stay(s.Side), append(stay(s.Side)[1:], 0)} {
			got, e := quasi.Alike(s, renamed(s, p))
			wantList(t, name("Alike", s), got, e, p)
		}
	}
	if told == 0 {
		t.Errorf("each has more names than one")
	}
}

// TestAlikeTakesTheFirst has Q3: of all names that may be, those that are ahead.
func TestAlikeTakesTheFirst(t *testing.T) {
	for n := 1; n <= 6; n++ {
		for _, s := range []api.Square{cyclic(n), minus(n)} {
			got, e := quasi.Alike(s, s)
			wantList(t, name("Alike", s), got, e, stay(n))
		}
	}
	for start := range 24 {
		s := renamed(bitwise(4), mixed(4, start))
		unit := units(s)[0]
		want := append([]int{unit}, slices.DeleteFunc(stay(4), func(x int) bool { return x == unit })...)
		got, e := quasi.Alike(bitwise(4), s)
		wantList(t, name("Alike", s), got, e, want)
	}
}

// TestKinds has Q3: quasigroups that are not alike are as many as the books say, and so are those with a unit.
func TestKinds(t *testing.T) {
	kinds := func(squares []api.Square) int {
		var met []api.Square
		for _, s := range squares {
			if !slices.ContainsFunc(met, func(a api.Square) bool { _, e := quasi.Alike(a, s); return e == api.OK }) {
				met = append(met, s)
			}
		}
		return len(met)
	}
	for i, want := range []int{1, 1, 5, 35} {
		if got := kinds(all(i + 1)); got != want {
			t.Errorf("of %d elements: %d kinds, not %d", i+1, got, want)
		}
	}
	for i, want := range []int{1, 1, 1, 2, 6} {
		if got := kinds(loops(i + 1)); got != want {
			t.Errorf("of %d elements with a unit: %d kinds, not %d", i+1, got, want)
		}
	}
}

// TestNotAlike has Q3's ErrNone, up to the greatest that are tried.
func TestNotAlike(t *testing.T) {
	for _, x := range [][2]api.Square{
		{cyclic(4), bitwise(4)}, {cyclic(6), sixth()}, {cyclic(5), middle(5)}, {middle(5), mirror(5)}, {minus(3), minusFrom(3)}, {minus(6), minusFrom(6)}, {cyclic(3), middle(3)},
	} {
		got, e := quasi.Alike(x[0], x[1])
		wantNoList(t, name("Alike", x[0]), got, e, api.ErrNone)
		got, e = quasi.Alike(x[1], x[0])
		wantNoList(t, name("Alike", x[1]), got, e, api.ErrNone)
	}
}

// TestAlikeOfSides has Q3's ErrShape, and behind it ErrFull.
func TestAlikeOfSides(t *testing.T) {
	for n := 1; n <= 8; n++ {
		for m := 1; m <= 8; m++ {
			call := fmt.Sprint("Alike of ", n, " and ", m, " elements")
			for _, b := range []api.Square{cyclic(m), shuffled(cyclic(m), m)} {
				got, e := quasi.Alike(cyclic(n), b)
				if n != m {
					wantNoList(t, call, got, e, api.ErrShape)
				} else if n > 6 {
					wantNoList(t, call, got, e, api.ErrFull)
				} else if e != api.OK && e != api.ErrNone {
					t.Errorf("%s: error %d", call, e)
				}
			}
		}
	}
	for _, b := range []api.Square{bitwise(8), turns(), quaternions()} {
		got, e := quasi.Alike(cyclic(8), b)
		wantNoList(t, name("Alike of 8 with", b), got, e, api.ErrFull)
		got, e = quasi.Alike(b, b)
		wantNoList(t, name("Alike", b), got, e, api.ErrFull)
	}
}
