package recur_test

import (
	"math"
	"slices"
	"testing"

	"parterre/api"
	"parterre/recur"
)

// TestNumbersOfTheChapter has P3: what has a name stands in package api.
func TestNumbersOfTheChapter(t *testing.T) {
	got := []int{api.MaxTaps, api.MaxTerms, api.MaxStates, api.MaxSeen}
	if !slices.Equal(got, []int{8, 5000, 20000, 60}) {
		t.Errorf("got %v", got)
	}
}

// badRules are recurrences with what Check says of them, where several are wrong what is said first.
func badRules() []struct {
	p    int
	taps []int
	want api.Errno
} {
	nine := []int{1, 1, 1, 1, 1, 1, 1, 1, 1}
	return []struct {
		p    int
		taps []int
		want api.Errno
	}{
		{0, []int{1}, api.ErrRange}, {1, []int{0}, api.ErrRange}, {4, []int{1}, api.ErrRange}, {6, []int{1}, api.ErrRange},
		{8, []int{1}, api.ErrRange}, {9, []int{1}, api.ErrRange}, {11, []int{1}, api.ErrRange}, {-2, []int{1}, api.ErrRange},
		{math.MinInt, []int{1}, api.ErrRange}, {math.MaxInt, []int{1}, api.ErrRange},
		{4, nil, api.ErrRange}, {4, nine, api.ErrRange}, {11, []int{-1}, api.ErrRange},
		{2, nil, api.ErrShape}, {7, []int{}, api.ErrShape}, {2, nine, api.ErrShape},
		{2, []int{9, 9, 9, 9, 9, 9, 9, 9, 9}, api.ErrShape}, {3, make([]int, 100), api.ErrShape},
		{2, []int{2}, api.ErrRange}, {2, []int{-1}, api.ErrRange}, {7, []int{7}, api.ErrRange},
		{5, []int{4, 4, 4, 4, 4, 4, 4, 5}, api.ErrRange}, {3, []int{0, math.MinInt, 0}, api.ErrRange}, {3, []int{math.MaxInt, 1}, api.ErrRange},
	}
}

// TestCheck has R1: what is wrong, and what is not at the bounds.
func TestCheck(t *testing.T) {
	for _, c := range badRules() {
		if e := recur.Check(c.p, c.taps); e != c.want {
			t.Errorf("Check(%d, %v): got %d, want %d", c.p, c.taps, e, c.want)
		}
	}
	for _, p := range primes() {
		for k := 1; k <= api.MaxTaps; k++ {
			for _, tap := range []int{0, 1, p - 1} {
				taps := slices.Repeat([]int{tap}, k)
				if e := recur.Check(p, taps); e != api.OK {
					t.Errorf("Check(%d, %v): error %d", p, taps, e)
				}
			}
		}
	}
}

// wantError asks Run and Period for one error, and for nothing beside it (P1).
func wantError(t *testing.T, p int, taps, seed []int, n int, want api.Errno) {
	t.Helper()
	if got, e := recur.Run(p, taps, seed, n); e != want || len(got) != 0 {
		t.Errorf("Run(%d, %v, %v, %d): got %v, error %d, want %d", p, taps, seed, n, got, e, want)
	}
	if a, b, e := recur.Period(p, taps, seed); e != want || a != 0 || b != 0 {
		t.Errorf("Period(%d, %v, %v): got %d, %d, error %d, want %d", p, taps, seed, a, b, e, want)
	}
}

// TestTheRecurrenceIsSaidFirst has R1: ahead of the seed and of how far to go.
func TestTheRecurrenceIsSaidFirst(t *testing.T) {
	for _, c := range badRules() {
		for _, n := range []int{5, -1, api.MaxTerms + 1} {
			wantError(t, c.p, c.taps, make([]int, len(c.taps)), n, c.want)
			wantError(t, c.p, c.taps, make([]int, len(c.taps)+1), n, c.want)
			wantError(t, c.p, c.taps, slices.Repeat([]int{-1}, len(c.taps)), n, c.want)
			wantError(t, c.p, c.taps, nil, n, c.want)
		}
	}
}

// TestTheSeedIsSaidNext has R1 and R2: ahead of how far to go, and of how many windows there are.
func TestTheSeedIsSaidNext(t *testing.T) {
	for _, k := range []int{1, 2, 8} {
		taps := slices.Repeat([]int{6}, k) // of 8 taps modulo 7 there are too many windows for Period
		for _, n := range []int{5, -1, api.MaxTerms + 1} {
			for _, wrong := range []int{0, k - 1, k + 1, 100} {
				want := api.ErrShape
				wantError(t, 7, taps, slices.Repeat([]int{1}, wrong), n, want)
				if wrong > 0 {
					wantError(t, 7, taps, slices.Repeat([]int{-1}, wrong), n, want)
				}
			}
			for _, bad := range []int{-1, 7, math.MinInt, math.MaxInt} {
				for at := range k {
					seed := make([]int, k)
					seed[at] = bad
					wantError(t, 7, taps, seed, n, api.ErrRange)
				}
			}
		}
	}
}

// TestHowFar has R2's error of Run: at its bounds and far beyond them.
func TestHowFar(t *testing.T) {
	for _, n := range []int{-1, api.MaxTerms + 1, math.MinInt, math.MaxInt} {
		if got, e := recur.Run(2, []int{1, 1}, []int{0, 1}, n); e != api.ErrRange || len(got) != 0 {
			t.Errorf("Run of %d numbers: got %d numbers, error %d", n, len(got), e)
		}
	}
}

// TestLeastErrors has R3: p is said ahead of how many numbers there are, and that ahead of what they are.
func TestLeastErrors(t *testing.T) {
	long, wild := make([]int, api.MaxSeen+1), slices.Repeat([]int{-1}, api.MaxSeen+1)
	for _, c := range []struct {
		p    int
		seen []int
		want api.Errno
	}{
		{4, []int{1}, api.ErrRange}, {1, nil, api.ErrRange}, {0, nil, api.ErrRange}, {11, long, api.ErrRange}, {-3, wild, api.ErrRange},
		{math.MinInt, nil, api.ErrRange}, {math.MaxInt, nil, api.ErrRange}, {9, nil, api.ErrRange},
		{2, long, api.ErrFull}, {7, wild, api.ErrFull}, {3, make([]int, 10000), api.ErrFull},
		{2, []int{2}, api.ErrRange}, {7, []int{0, 7}, api.ErrRange}, {5, []int{-1}, api.ErrRange},
		{3, wild[1:], api.ErrRange}, {3, []int{math.MinInt}, api.ErrRange}, {3, []int{0, math.MaxInt, 0}, api.ErrRange},
	} {
		l, taps, e := recur.Least(c.p, c.seen)
		if e != c.want || l != 0 || len(taps) != 0 {
			t.Errorf("Least(%d, %v): got %d, %v, error %d, want %d", c.p, c.seen, l, taps, e, c.want)
		}
	}
	if _, _, e := recur.Least(2, long[1:]); e != api.OK {
		t.Errorf("Least of MaxSeen numbers: error %d", e)
	}
}

// TestFullErrors has R4: what is out of range is said ahead of what is too great.
func TestFullErrors(t *testing.T) {
	for _, c := range []struct {
		p, k int
		want api.Errno
	}{
		{4, 1, api.ErrRange}, {4, 100, api.ErrRange}, {0, 9, api.ErrRange}, {1, 1, api.ErrRange}, {11, 1, api.ErrRange}, {-2, 2, api.ErrRange},
		{2, 0, api.ErrRange}, {7, -1, api.ErrRange}, {2, math.MinInt, api.ErrRange}, {math.MinInt, 1, api.ErrRange}, {math.MaxInt, math.MaxInt, api.ErrRange},
		{2, 9, api.ErrFull}, {2, 10, api.ErrFull}, {2, 64, api.ErrFull}, {2, math.MaxInt, api.ErrFull}, {7, math.MaxInt, api.ErrFull},
		{3, 7, api.ErrFull}, {5, 5, api.ErrFull}, {7, 4, api.ErrFull}, {7, 8, api.ErrFull},
	} {
		if got, e := recur.Full(c.p, c.k); e != c.want || len(got) != 0 {
			t.Errorf("Full(%d, %d): got %v, error %d, want %d", c.p, c.k, got, e, c.want)
		}
	}
}

// TestNoNumberPanics has P1: each face at numbers from end to end, in each place.
func TestNoNumberPanics(t *testing.T) {
	ends := []int{math.MinInt, -1, 0, 1, 2, 3, 4, 5, 7, 8, 5000, math.MaxInt}
	for _, p := range ends {
		for _, a := range ends {
			recur.Full(p, a)
			for n := range 10 {
				list := slices.Repeat([]int{a}, n)
				e := recur.Check(p, list)
				for _, b := range ends {
					seed := slices.Repeat([]int{b}, n)
					_, e1 := recur.Run(p, list, seed, b)
					_, _, e2 := recur.Period(p, list, seed)
					if e != api.OK && (e1 != e || e2 != e) {
						t.Fatalf("modulo %d, taps %v: errors %d, %d, %d", p, list, e, e1, e2)
					}
				}
				recur.Least(p, list)
			}
		}
	}
}

// TestNothingIsWrittenOrKept has P2 and P4: the lists, and what lies behind their length, stay; what is changed behind a call is not to be seen in its answer.
func TestNothingIsWrittenOrKept(t *testing.T) {
	taps, seed := []int{1, 0, 1, -7, 99}, []int{0, 1, 1, 55, -9}
	seen := []int{0, 1, 1, 0, 1, 1, 77, 1}
	row := run(t, 2, taps[:3], seed[:3], 20)
	ahead, period, e := recur.Period(2, taps[:3], seed[:3])
	if ahead != 0 || period != 7 || e != api.OK {
		t.Errorf("Period: got %d, %d, error %d", ahead, period, e)
	}
	if e := recur.Check(2, taps[:3]); e != api.OK {
		t.Errorf("Check: error %d", e)
	}
	_, found, _ := recur.Least(2, seen[:6])
	if !slices.Equal(taps, []int{1, 0, 1, -7, 99}) || !slices.Equal(seed, []int{0, 1, 1, 55, -9}) || !slices.Equal(seen, []int{0, 1, 1, 0, 1, 1, 77, 1}) {
		t.Fatalf("written into: %v, %v, %v", taps, seed, seen)
	}
	want := plainRow(2, []int{1, 0, 1}, []int{0, 1, 1}, 20)
	clear(taps)
	clear(seed)
	clear(seen)
	if !slices.Equal(row, want) || !slices.Equal(found, []int{1, 1}) {
		t.Errorf("kept: %v, %v", row, found)
	}
	if after := run(t, 2, taps[:3], seed[:3], 20); !slices.Equal(after, make([]int, 20)) {
		t.Errorf("kept: %v", after)
	}
}

// TestOneListForAll has P2: the same list as taps, as seed and as row, all the same told as of lists apart.
func TestOneListForAll(t *testing.T) {
	list := []int{1, 2, 0, 2}
	got := run(t, 3, list, list, 30)
	if want := plainRow(3, slices.Clone(list), slices.Clone(list), 30); !slices.Equal(got, want) {
		t.Errorf("got %v, want %v", got, want)
	}
	// The answer that is as long as the seed is not the seed.
	got = run(t, 3, list, list, 4)
	got[0] = -1
	if list[0] != 1 {
		t.Error("Run gives out the seed")
	}
}

// TestWhatComesOutIsFresh has P2: no two answers share memory.
func TestWhatComesOutIsFresh(t *testing.T) {
	calls := []func() []int{
		func() []int { out, _ := recur.Run(2, []int{1, 1}, []int{0, 1}, 6); return out },
		func() []int { _, out, _ := recur.Least(3, []int{1, 2, 1, 2}); return out },
		func() []int { out, _ := recur.Full(2, 3); return out },
	}
	for i, call := range calls {
		a, b := call(), call()
		want := slices.Clone(b)
		for j := range a[:cap(a)] {
			a[:cap(a)][j] = -1
		}
		if !slices.Equal(b, want) || !slices.Equal(call(), want) {
			t.Errorf("call %d: got %v, want %v", i, b, want)
		}
	}
}
