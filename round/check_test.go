package round_test

import (
	"math"
	"slices"
	"testing"

	"parterre/api"
	"parterre/round"
)

// wrong is how many teams there are, rounds, and what is wrong with them.
type wrong struct {
	n      int
	rounds [][]int
	want   api.Errno
}

// wrongOnes have each error of R1; where several apply, the one that is said first.
func wrongOnes() []wrong {
	two, four, full := [][]int{{1, 0}}, circleOf(4), circleOf(16)
	return []wrong{
		{1, nil, api.ErrRange},
		{0, nil, api.ErrRange},
		{-1, nil, api.ErrRange},
		{-2, nil, api.ErrRange},
		{-4, four, api.ErrRange},
		{3, nil, api.ErrRange},
		{5, four, api.ErrRange},
		{15, nil, api.ErrRange},
		{17, nil, api.ErrRange},
		{18, nil, api.ErrRange},
		{32, full, api.ErrRange},
		{1 << 32, two, api.ErrRange},
		{1<<32 + 2, two, api.ErrRange},
		{1<<32 + 4, four, api.ErrRange},
		{math.MinInt, two, api.ErrRange},
		{math.MaxInt, two, api.ErrRange},
		{math.MaxInt - 1, two, api.ErrRange},
		{1, two, api.ErrRange},
		{3, make([][]int, 40), api.ErrRange},
		{18, make([][]int, 18), api.ErrRange},
		{18, circleOf(18), api.ErrRange},
		{3, [][]int{{9}}, api.ErrRange},
		{2, [][]int{{1, 0}, {1, 0}}, api.ErrFull},
		{2, [][]int{{1, 0}, {1}}, api.ErrFull},
		{2, [][]int{{1}, {1, 0}}, api.ErrFull},
		{2, [][]int{{0, 1}, {0, 2}}, api.ErrFull},
		{2, make([][]int, 2), api.ErrFull},
		{4, slices.Concat(four, four[:1]), api.ErrFull},
		{4, slices.Concat(four, [][]int{nil}), api.ErrFull},
		{16, slices.Concat(full, full[:1]), api.ErrFull},
		{16, make([][]int, 16), api.ErrFull},
		{16, make([][]int, 1000), api.ErrFull},
		{16, make([][]int, 15), api.ErrShape},
		{2, [][]int{nil}, api.ErrShape},
		{2, [][]int{{}}, api.ErrShape},
		{2, [][]int{{1}}, api.ErrShape},
		{2, [][]int{{9}}, api.ErrShape},
		{2, [][]int{{1, 0, 0}}, api.ErrShape},
		{2, [][]int{{1, 0, 7}}, api.ErrShape},
		{4, two, api.ErrShape},
		{4, [][]int{{3, 2, 1, 0}, nil}, api.ErrShape},
		{4, [][]int{{3, 2, 1, 0}, {2, 3, 0}}, api.ErrShape},
		{4, [][]int{{3, 2, 1, 0}, {2, 3, 0, 1, 0}}, api.ErrShape},
		{4, [][]int{{3, 2, 1, 0}, {2, 3, 0, 1}, {1, 0, 3}}, api.ErrShape},
		{4, [][]int{{3, 2, 1, 0}, {3, 2, 1, 0}, {1, 0, 3}}, api.ErrShape}, // two meet in two rounds as well
		{4, [][]int{{3, 2, 1}, {0, 2, 1, 3}}, api.ErrShape},
		{4, [][]int{{3, 2, 1}, {4, 2, 1, 3}}, api.ErrShape},
		{2, [][]int{{2, 0}}, api.ErrRange},
		{2, [][]int{{1, 2}}, api.ErrRange},
		{2, [][]int{{1, -1}}, api.ErrRange},
		{2, [][]int{{-1, 0}}, api.ErrRange},
		{2, [][]int{{0, 2}}, api.ErrRange}, // a team meets itself as well
		{4, [][]int{{3, 2, 1, 4}}, api.ErrRange},
		{4, [][]int{{3, 1, 2, 4}}, api.ErrRange},
		{4, [][]int{{3, 2, 1, 0}, {3, 2, 1, 4}}, api.ErrRange},
		{4, [][]int{{3, 2, 1, 0}, {3, 2, 1, 0}, {2, 3, 0, -1}}, api.ErrRange},
		{4, [][]int{{3, 2, 1, 4}, {0, 1, 2, 3}}, api.ErrRange},
		{4, [][]int{{3, 2, 1, 4}, {0, 1, 2}}, api.ErrRange},
		{16, instead(full, 14, 15, 16), api.ErrRange},
		{16, instead(full, 14, 15, -1), api.ErrRange},
		{16, instead(full, 0, 0, 1<<32), api.ErrRange},
		{16, instead(full, 0, 0, 1<<32+15), api.ErrRange},
		{16, instead(full, 0, 0, math.MinInt), api.ErrRange},
		{16, instead(full, 0, 0, math.MaxInt), api.ErrRange},
		{2, [][]int{{0, 1}}, api.ErrNone},
		{2, [][]int{{0, 0}}, api.ErrNone},
		{2, [][]int{{1, 1}}, api.ErrNone},
		{4, [][]int{{0, 1, 2, 3}}, api.ErrNone},
		{4, [][]int{{0, 2, 1, 3}}, api.ErrNone},
		{4, [][]int{{1, 0, 2, 3}}, api.ErrNone},
		{4, [][]int{{1, 2, 3, 0}}, api.ErrNone},
		{4, [][]int{{1, 0, 3, 0}}, api.ErrNone},
		{4, [][]int{{1, 0, 0, 2}}, api.ErrNone},
		{4, [][]int{{1, 0, 0, 0}}, api.ErrNone},
		{4, [][]int{{3, 2, 1, 0}, {3, 2, 1, 0}, {2, 3, 0, 0}}, api.ErrNone},
		{4, [][]int{{3, 2, 1, 1}, {3, 2, 1, 4}}, api.ErrNone},
		{4, [][]int{{3, 2, 1, 1}, {3, 2, 1}}, api.ErrNone},
		{6, [][]int{{1, 2, 0, 4, 5, 3}}, api.ErrNone},
		{4, [][]int{{3, 2, 1, 0}, {3, 2, 1, 0}}, api.ErrTwice},
		{4, [][]int{{3, 2, 1, 0}, {2, 3, 0, 1}, {3, 2, 1, 0}}, api.ErrTwice},
		{4, [][]int{{3, 2, 1, 0}, {2, 3, 0, 1}, {2, 3, 0, 1}}, api.ErrTwice},
		{6, [][]int{{1, 0, 3, 2, 5, 4}, {1, 0, 4, 5, 2, 3}}, api.ErrTwice},
		{6, [][]int{{1, 0, 3, 2, 5, 4}, {2, 3, 0, 1, 5, 4}}, api.ErrTwice},
		{16, slices.Concat(full[:14], full[:1]), api.ErrTwice},
		{16, slices.Concat(full[1:], full[14:]), api.ErrTwice},
	}
}

// TestCheckOfWrong has R1's errors.
func TestCheckOfWrong(t *testing.T) {
	for _, w := range wrongOnes() {
		wantError(t, name("Check", w.n, w.rounds), round.Check(w.n, w.rounds), w.want)
		wantError(t, name("what the words say", w.n, w.rounds), wrongWith(w.n, w.rounds), w.want)
	}
}

// TestCheckFirst has R1: Perfect and Rooms say this first, and nothing beside it; of the first rounds all, then of the second.
func TestCheckFirst(t *testing.T) {
	all := wrongOnes()
	for _, w := range all {
		got, e := round.Perfect(w.n, w.rounds)
		wantTruth(t, name("Perfect", w.n, w.rounds), got, e, false, w.want)
		good := [][][]int{nil}
		if w.n > 0 && w.n < 20 && w.n%2 == 0 {
			good = append(good, circleOf(w.n))
		}
		for _, other := range good {
			got, e = round.Rooms(w.n, w.rounds, other)
			wantTruth(t, name("Rooms", w.n, w.rounds, other), got, e, false, w.want)
			got, e = round.Rooms(w.n, other, w.rounds)
			wantTruth(t, name("Rooms", w.n, other, w.rounds), got, e, false, w.want)
		}
		for _, other := range all {
			got, e = round.Rooms(w.n, w.rounds, other.rounds)
			wantTruth(t, name("Rooms", w.n, w.rounds, other.rounds), got, e, false, w.want)
		}
	}
}

// TestCheckOfSizes has R1: each number of teams, of rounds and of numbers in these, up to and beyond its end.
func TestCheckOfSizes(t *testing.T) {
	for n := -4; n <= 20; n++ {
		for many := range 20 {
			for long := range 20 {
				rounds := slices.Repeat([][]int{make([]int, long)}, many)
				wantError(t, name("Check", n, rounds), round.Check(n, rounds), wrongWith(n, rounds))
			}
		}
		if n < 2 || n%2 != 0 {
			continue
		}
		for many := range n {
			rounds := circleOf(n)[:many]
			wantError(t, name("Check", n, rounds), round.Check(n, rounds), wrongWith(n, rounds))
		}
	}
}

// TestCheckOfSome has R1: nothing is wrong with these.
func TestCheckOfSome(t *testing.T) {
	for _, k := range some() {
		wantError(t, name("Check", k.name), round.Check(k.n, k.rounds), api.OK)
	}
}

// TestCheckOfEachNumber has R1: each number, in each place, of good rounds of all sizes.
func TestCheckOfEachNumber(t *testing.T) {
	found := map[api.Errno]int{}
	for start, k := range books() {
		for _, rounds := range [][][]int{otherwise(k.n, k.rounds, numbers(start)), k.rounds[:1]} {
			for i := range rounds {
				for team := range k.n {
					for x := -2; x <= k.n+1; x++ {
						other := instead(rounds, i, team, x)
						want := wrongWith(k.n, other)
						wantError(t, name("Check", k.n, other), round.Check(k.n, other), want)
						found[want]++
					}
				}
			}
		}
	}
	for _, e := range []api.Errno{api.OK, api.ErrRange, api.ErrNone} {
		if found[e] == 0 {
			t.Errorf("no error %d", e)
		}
	}
}

// TestCheckOfEachRound has R1: all lists of numbers about the bounds, as a round of up to four teams, and of six teams as numbers below six.
func TestCheckOfEachRound(t *testing.T) {
	for _, all := range []struct {
		n, low, high, good int
	}{{2, -2, 3, 1}, {4, -2, 5, 3}, {6, 0, 5, 15}} {
		good := 0
		for _, list := range lists(all.low, all.high, all.n) {
			rounds := [][]int{list}
			e := round.Check(all.n, rounds)
			wantError(t, name("Check", all.n, rounds), e, wrongWith(all.n, rounds))
			if e == api.OK {
				good++
			}
		}
		if good != all.good {
			t.Errorf("%d rounds of %d teams are good, want %d", good, all.n, all.good)
		}
	}
}

// TestCheckOfEachTwoRounds has R1: each two lists of numbers below four, and each two and three rounds of four and of six teams; who meets twice is told, wherever.
func TestCheckOfEachTwoRounds(t *testing.T) {
	all := lists(0, 3, 4)
	for _, one := range all {
		for _, other := range all {
			rounds := [][]int{one, other}
			wantError(t, name("Check", rounds), round.Check(4, rounds), wrongWith(4, rounds))
		}
	}
	for n, good := range map[int]int{4: 6, 6: 15 * 8 * 4} { // a round of six teams has eight others apart from it, and two leave a prism, which has four
		got := 0
		for _, one := range everyRound(n) {
			for _, other := range everyRound(n) {
				for _, third := range everyRound(n) {
					rounds := [][]int{one, other, third}
					e := round.Check(n, rounds)
					wantError(t, name("Check", rounds), e, wrongWith(n, rounds))
					if e == api.OK {
						got++
					}
				}
			}
		}
		if got != good {
			t.Errorf("%d three rounds of %d teams are good, want %d", got, n, good)
		}
	}
}

// TestCheckOfTwoPairs has R1: in complete rounds two that meet, and two others of one round, meet the other way, so that these meet in another round too.
func TestCheckOfTwoPairs(t *testing.T) {
	for start, k := range books() {
		rounds := otherwise(k.n, k.rounds, numbers(start))
		for i, one := range rounds {
			for a := range k.n {
				for b := range k.n {
					if b == a || b == one[a] {
						continue
					}
					other := cloned(rounds)
					c, d := one[a], one[b]
					other[i][a], other[i][b], other[i][c], other[i][d] = b, a, d, c
					wantError(t, name("Check", k.n, other), round.Check(k.n, other), api.ErrTwice)
					other = other[i : i+1]
					wantError(t, name("Check", k.n, other), round.Check(k.n, other), api.OK)
				}
			}
		}
	}
}
