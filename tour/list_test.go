package tour_test

import (
	"slices"
	"testing"

	"parterre/api"
	"parterre/tour"
)

// wantWalks holds Path, Paths and Cycle against all lists there are.
func wantWalks(t *testing.T, s api.Square, orders [][]int) {
	t.Helper()
	paths, cycles := lists(s, orders)
	got, e := tour.Path(s)
	wantList(t, name("Path", s), got, e, paths[0], api.OK)
	many, e := tour.Paths(s)
	wantNumber(t, name("Paths", s), many, e, len(paths), api.OK)
	got, e = tour.Cycle(s)
	if len(cycles) == 0 {
		wantList(t, name("Cycle", s), got, e, nil, api.ErrNone)
	} else {
		wantList(t, name("Cycle", s), got, e, cycles[0], api.OK)
	}
}

// TestWalksOfEach has T2's Path, Paths and Cycle, of all tournaments of up to five players, and of one in seven of six.
func TestWalksOfEach(t *testing.T) {
	for n := 1; n <= 5; n++ {
		all := orders(n)
		for _, s := range every(n) {
			wantWalks(t, s, all)
		}
	}
	all := orders(6)
	for number := 0; number < 1<<15; number += 7 {
		wantWalks(t, numbered(6, number), all)
	}
}

// TestWalksOfSome has T2's Path, Paths and Cycle, of some tournaments of all sizes.
func TestWalksOfSome(t *testing.T) {
	all := some()
	for n := 1; n <= 9; n++ {
		orders := orders(n)
		for _, s := range all {
			if s.Side == n {
				wantWalks(t, s, orders)
			}
		}
	}
}

// TestPathOfSome has T2: the first list of all is a path where each beats the next, and there is one alone where each beats all behind him.
func TestPathOfSome(t *testing.T) {
	all := []int{0, 1, 2, 3, 4, 5, 6, 7, 8}
	for n := 1; n <= 9; n++ {
		got, e := tour.Path(falling(n))
		wantList(t, name("Path", falling(n)), got, e, all[:n], api.OK)
		back := slices.Clone(all[:n])
		slices.Reverse(back)
		got, e = tour.Path(rising(n))
		wantList(t, name("Path", rising(n)), got, e, back, api.OK)
		for _, s := range []api.Square{falling(n), rising(n)} {
			many, e := tour.Paths(s)
			wantNumber(t, name("Paths", s), many, e, 1, api.OK)
		}
		if n%2 == 1 {
			got, e = tour.Path(circle(n))
			wantList(t, name("Path", circle(n)), got, e, all[:n], api.OK)
		}
	}
}

// TestPathsOfBooks has T2: what is known of how many there are at most, and of all tournaments together (each list is a path of one in 2 to the power of n - 1).
func TestPathsOfBooks(t *testing.T) {
	most := []int{0, 1, 1, 3, 5, 15, 45}
	list := 1
	for n := 1; n <= 6; n++ {
		list *= n
		greatest, sum := 0, 0
		all := every(n)
		for _, s := range all {
			many, e := tour.Paths(s)
			wantError(t, name("Paths", s), e, api.OK)
			greatest = max(greatest, many)
			sum += many
		}
		if greatest != most[n] || sum != list*len(all)>>(n-1) {
			t.Errorf("of %d players: at most %d, together %d", n, greatest, sum)
		}
	}
	many, e := tour.Paths(squares())
	wantNumber(t, "Paths of squares", many, e, 189, api.OK)
	many, e = tour.Paths(circle(9))
	wantNumber(t, "Paths of a ring of 9", many, e, 3267, api.OK)
}

// TestCycleOfSome has T2: one alone is one, two never are; none, where all of some are beaten by all of the others.
func TestCycleOfSome(t *testing.T) {
	got, e := tour.Cycle(square(1, 0))
	wantList(t, "Cycle of one", got, e, []int{0}, api.OK)
	all := []int{0, 1, 2, 3, 4, 5, 6, 7, 8}
	for n := 2; n <= 9; n++ {
		for _, s := range []api.Square{falling(n), rising(n), stacked(falling(1), strewn(n-1, numbers(n)))} {
			got, e := tour.Cycle(s)
			wantList(t, name("Cycle", s), got, e, nil, api.ErrNone)
		}
		if n%2 == 1 {
			got, e := tour.Cycle(circle(n))
			wantList(t, name("Cycle", circle(n)), got, e, all[:n], api.OK)
		}
		if n > 2 { // each beats those behind him, but the last beats the first
			s := made(n, func(i, j int) bool { return j-i < n-1 })
			got, e := tour.Cycle(s)
			wantList(t, name("Cycle", s), got, e, all[:n], api.OK)
			got, e = tour.Cycle(turned(s))
			back := slices.Clone(all[:n])
			slices.Reverse(back[1:])
			wantList(t, name("Cycle", turned(s)), got, e, back, api.OK)
		}
	}
	four := square(4, 0, 1, 0, 0, 0, 0, 1, 0, 1, 0, 0, 1, 1, 1, 0, 0)
	got, e = tour.Cycle(four)
	wantList(t, name("Cycle", four), got, e, []int{0, 1, 2, 3}, api.OK)
	other := renamed(four, []int{0, 2, 1, 3})
	got, e = tour.Cycle(other)
	wantList(t, name("Cycle", other), got, e, []int{0, 2, 1, 3}, api.OK)
}

// TestCycleIsNotTheFirstPath has T2: where the first path does not close, a further one does, if any.
func TestCycleIsNotTheFirstPath(t *testing.T) {
	found := 0
	for _, s := range every(5) {
		path, e := tour.Path(s)
		wantError(t, name("Path", s), e, api.OK)
		cycle, e := tour.Cycle(s)
		if e == api.OK && !slices.Equal(path, cycle) {
			found++
			if slices.Compare(path, cycle) > 0 {
				t.Errorf("%v: %v is ahead of %v", s, cycle, path)
			}
		}
	}
	if found == 0 {
		t.Error("none")
	}
}

// TestParts has T3, of all tournaments of up to six players and some of all sizes.
func TestParts(t *testing.T) {
	for _, s := range asked() {
		got, e := tour.Parts(s)
		wantLists(t, name("Parts", s), got, e, partsOf(s), api.OK)
	}
}

// TestPartsOfSome has T3: each alone, where each beats all behind him; all together in a ring; and those of which it is stacked.
func TestPartsOfSome(t *testing.T) {
	all := []int{0, 1, 2, 3, 4, 5, 6, 7, 8}
	for n := 1; n <= 9; n++ {
		var alone [][]int
		for player := range n {
			alone = append(alone, []int{player})
		}
		got, e := tour.Parts(falling(n))
		wantLists(t, name("Parts", falling(n)), got, e, alone, api.OK)
		slices.Reverse(alone)
		got, e = tour.Parts(rising(n))
		wantLists(t, name("Parts", rising(n)), got, e, alone, api.OK)
		if n%2 == 1 {
			got, e = tour.Parts(circle(n))
			wantLists(t, name("Parts", circle(n)), got, e, [][]int{all[:n]}, api.OK)
		}
	}
	three := stacked(stacked(circle(3), falling(1)), circle(5))
	got, e := tour.Parts(three)
	wantLists(t, name("Parts", three), got, e, [][]int{{0, 1, 2}, {3}, {4, 5, 6, 7, 8}}, api.OK)
	three = renamed(three, []int{8, 0, 4, 5, 7, 3, 6, 1, 2})
	got, e = tour.Parts(three)
	wantLists(t, name("Parts", three), got, e, [][]int{{0, 4, 8}, {5}, {1, 2, 3, 6, 7}}, api.OK)
}

// TestPartsAreInOrder has T3: who is in one beats all in those behind it, and in one part one comes from each to each.
func TestPartsAreInOrder(t *testing.T) {
	for _, s := range some() {
		parts, e := tour.Parts(s)
		wantError(t, name("Parts", s), e, api.OK)
		var ahead []int
		for _, part := range parts {
			for _, player := range part {
				for _, other := range ahead {
					if s.Cells[other*s.Side+player] != 1 {
						t.Errorf("%v: %d is beaten by %d", s, other, player)
					}
				}
				for _, other := range part {
					if !slices.Contains(comeTo(s, player), other) {
						t.Errorf("%v: from %d one does not come to %d", s, player, other)
					}
				}
			}
			if !slices.IsSorted(part) {
				t.Errorf("%v: %v does not rise", s, part)
			}
			ahead = append(ahead, part...)
		}
		slices.Sort(ahead)
		if !slices.Equal(ahead, []int{0, 1, 2, 3, 4, 5, 6, 7, 8}[:s.Side]) {
			t.Errorf("%v: the parts have %v", s, ahead)
		}
	}
}

// TestPartsOfBooks has T3: how many tournaments have one part is known.
func TestPartsOfBooks(t *testing.T) {
	for n, want := range []int{0, 1, 0, 2, 24, 544, 22320} {
		if n == 0 {
			continue
		}
		one, cycles := 0, 0
		for _, s := range every(n) {
			parts, e := tour.Parts(s)
			wantError(t, name("Parts", s), e, api.OK)
			if len(parts) == 1 {
				one++
			}
			if _, e := tour.Cycle(s); e == api.OK {
				cycles++
			}
		}
		if one != want || cycles != want {
			t.Errorf("of %d players: %d have one part, %d a cycle, want %d", n, one, cycles, want)
		}
	}
}
