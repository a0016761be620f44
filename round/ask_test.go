package round_test

import (
	"fmt"
	"slices"
	"testing"

	"parterre/api"
	"parterre/round"
)

// wantPerfect holds what Perfect tells against the words of R2, and against what is known.
func wantPerfect(t *testing.T, k known) {
	t.Helper()
	got, e := round.Perfect(k.n, k.rounds)
	wantTruth(t, name("Perfect", k.name, k.rounds), got, e, k.perfect, api.OK)
	wantTruth(t, name("what the words say", k.name, k.rounds), perfectOf(k.n, k.rounds), api.OK, k.perfect, api.OK)
}

// TestPerfect has R2, at rounds of all sizes, complete and not.
func TestPerfect(t *testing.T) {
	for _, k := range some() {
		wantPerfect(t, k)
	}
}

// TestPerfectAtTheEnds has R2: of two teams there are no two rounds; no rounds, and rounds less one, are not complete.
func TestPerfectAtTheEnds(t *testing.T) {
	got, e := round.Perfect(2, [][]int{{1, 0}})
	wantTruth(t, "Perfect of two teams", got, e, true, api.OK)
	for n := 2; n <= 16; n += 2 {
		got, e = round.Perfect(n, nil)
		wantTruth(t, name("Perfect of no rounds", n), got, e, false, api.OK)
		got, e = round.Perfect(n, circleOf(n)[:n-2])
		wantTruth(t, name("Perfect of rounds less one", n), got, e, false, api.OK)
	}
}

// TestPerfectOfAll has R2: all complete rounds of up to eight teams, of which books tell how many there are, and how many of these are perfect.
func TestPerfectOfAll(t *testing.T) {
	for n, want := range map[int][2]int{2: {1, 1}, 4: {1, 1}, 6: {6, 6}, 8: {6240, 960}} {
		all := everyComplete(n)
		perfect := 0
		for start, rounds := range all {
			if start%7 == 0 {
				rounds = otherwise(n, rounds, numbers(start))
			}
			got, e := round.Perfect(n, rounds)
			wantTruth(t, name("Perfect", rounds), got, e, perfectOf(n, rounds), api.OK)
			if got {
				perfect++
			}
		}
		if len(all) != want[0] || perfect != want[1] {
			t.Errorf("%d teams: %d of %d are perfect, want %d of %d", n, perfect, len(all), want[1], want[0])
		}
	}
}

// spoiled are complete rounds of twelve teams: each two but the last are one ring, but the last and some others are not.
func spoiled() [][]int {
	return [][]int{
		{1, 0, 3, 2, 5, 4, 7, 6, 9, 8, 11, 10},
		{11, 2, 1, 4, 3, 6, 5, 8, 7, 10, 9, 0},
		{3, 4, 6, 0, 1, 8, 2, 10, 5, 11, 7, 9},
		{4, 7, 11, 9, 0, 10, 8, 1, 6, 3, 5, 2},
		{5, 9, 4, 6, 2, 0, 3, 11, 10, 1, 8, 7},
		{6, 5, 10, 8, 11, 1, 0, 9, 3, 7, 2, 4},
		{7, 8, 5, 11, 9, 2, 10, 0, 1, 4, 6, 3},
		{8, 3, 7, 1, 10, 9, 11, 2, 0, 5, 4, 6},
		{9, 10, 8, 7, 6, 11, 4, 3, 2, 0, 1, 5},
		{10, 6, 9, 5, 7, 3, 1, 4, 11, 2, 0, 8},
		{2, 11, 0, 10, 8, 7, 9, 5, 4, 6, 3, 1},
	}
}

// TestPerfectOfSpoiled has R2: one round spoils them, wherever it stands.
func TestPerfectOfSpoiled(t *testing.T) {
	rounds := spoiled()
	for i := range rounds {
		for j := range i {
			one := len(comeTo(0, rounds[i], rounds[j])) == 12
			if i < 10 && !one {
				t.Errorf("the rounds %d and %d are not one ring", i, j)
			}
		}
	}
	for at := range rounds {
		other := slices.Insert(slices.Clone(rounds[:10]), at, rounds[10])
		wantPerfect(t, known{fmt.Sprint("spoiled at ", at), 12, other, false})
		next := numbers(at)
		wantPerfect(t, known{fmt.Sprint("spoiled at ", at), 12, renamed(other, []int{0, 1, 2, 3, 4, 5, 6, 7, 8, 9, 10}, strewnOrder(12, next)), false})
	}
}

// TestPerfectOfDeveloped has R2: of rounds of all starters, where rings that have not all teams may be long ones for the team that meets each number once; this one is named v, and then 0.
func TestPerfectOfDeveloped(t *testing.T) {
	found := map[bool]int{}
	for v := 3; v <= 15; v += 2 {
		for start, pairs := range starters(v) {
			rounds := developOf(v, pairs)
			want := perfectOf(v+1, rounds)
			found[want]++
			order, names := strewnOrder(v, numbers(start)), strewnOrder(v+1, numbers(start))
			for i, x := range names {
				if x == 0 {
					names[i], names[v] = names[v], 0
					break
				}
			}
			for _, rounds := range [][][]int{rounds, renamed(rounds, order, names)} {
				got, e := round.Perfect(v+1, rounds)
				wantTruth(t, name("Perfect", v+1, rounds), got, e, want, api.OK)
			}
		}
	}
	if found[true] == 0 || found[false] == 0 {
		t.Errorf("found %v", found)
	}
}

// wantRooms holds what Rooms tells, both ways round, against the words of R2.
func wantRooms(t *testing.T, n int, a, b [][]int, want bool) {
	t.Helper()
	got, e := round.Rooms(n, a, b)
	wantTruth(t, name("Rooms", n, a, b), got, e, want, api.OK)
	got, e = round.Rooms(n, b, a)
	wantTruth(t, name("Rooms", n, b, a), got, e, want, api.OK)
	wantTruth(t, name("what the words say", n, a, b), roomsOf(n, a, b), api.OK, want, api.OK)
}

// squares are complete rounds that fill a Room square: those of eight teams stand in the chapter, the others are of strong starters, whose sums are soon added up by hand.
func squares() [][2][][]int {
	out := [][2][][]int{{{{1, 0}}, {{1, 0}}}}
	for _, pairs := range [][][]int{
		{{2, 3}, {4, 6}, {1, 5}},
		{{1, 2}, {7, 9}, {3, 6}, {4, 8}, {5, 10}},
		{{1, 2}, {3, 6}, {4, 11}, {5, 9}, {7, 12}, {8, 10}},
		{{1, 3}, {2, 7}, {4, 10}, {5, 8}, {6, 14}, {9, 13}, {11, 12}},
	} {
		v := 2*len(pairs) + 1
		out = append(out, [2][][]int{developOf(v, pairs), developOf(v, oppositeOf(v, pairs))}, [2][][]int{developOf(v, pairs), circleOf(v + 1)})
	}
	return out
}

// TestRooms has R2: whatever the order of the rounds on both sides, and the names of the teams, if they are the same ones.
func TestRooms(t *testing.T) {
	for start, s := range squares() {
		next := numbers(start)
		n := len(s[0]) + 1
		wantRooms(t, n, s[0], s[1], true)
		for range 20 {
			names := strewnOrder(n, next)
			a, b := renamed(s[0], strewnOrder(n-1, next), names), renamed(s[1], strewnOrder(n-1, next), names)
			wantRooms(t, n, a, b, true)
			other := otherwise(n, b, next)
			wantRooms(t, n, a, other, roomsOf(n, a, other))
		}
	}
}

// TestRoomsOfSome has R2: rounds that are not complete fill none, even if they are part of a square; and none are filled by rounds and these rounds again, but of two teams.
func TestRoomsOfSome(t *testing.T) {
	for _, s := range squares() {
		n := len(s[0]) + 1
		for many := range n - 1 {
			wantRooms(t, n, s[0][:many], s[1], false)
			wantRooms(t, n, s[0][many+1:], s[1], false)
			wantRooms(t, n, s[0][:many], s[1][:many], false)
			wantRooms(t, n, s[0][:many], s[1][many:], false)
		}
		wantRooms(t, n, s[0], s[0], n == 2)
	}
	all := some()
	for i, k := range all {
		for _, other := range all[i:min(i+16, len(all))] {
			if other.n == k.n {
				wantRooms(t, k.n, k.rounds, other.rounds, roomsOf(k.n, k.rounds, other.rounds))
			}
		}
	}
}

// TestRoomsOfAll has R2: of four and of six teams there is no Room square; of eight, each complete rounds are held against those of the chapter, of Circle and of bits.
func TestRoomsOfAll(t *testing.T) {
	for _, n := range []int{4, 6} {
		for _, a := range everyComplete(n) {
			for _, b := range everyComplete(n) {
				wantRooms(t, n, a, b, false)
			}
		}
	}
	firsts := [][][]int{developOf(7, [][]int{{2, 3}, {4, 6}, {1, 5}}), circleOf(8), exclusive(8)}
	found := map[bool]int{}
	for _, b := range everyComplete(8) {
		for _, a := range firsts {
			want := roomsOf(8, a, b)
			wantRooms(t, 8, a, b, want)
			found[want]++
		}
	}
	if found[true] == 0 || found[false] == 0 {
		t.Errorf("found %v", found)
	}
}
