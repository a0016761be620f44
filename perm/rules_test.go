package perm_test

import (
	"math"
	"slices"
	"testing"

	"parterre/api"
	"parterre/perm"
)

// TestNumbersOfTheChapter has P3: what has a name stands in package api.
func TestNumbersOfTheChapter(t *testing.T) {
	if api.MaxPoints != 12 {
		t.Errorf("got %d", api.MaxPoints)
	}
}

type bad struct {
	a    []int
	want api.Errno
}

// bads are lists with what Check says of them, where several are wrong what is said first.
func bads() []bad {
	return []bad{
		{stay(13), api.ErrFull}, {make([]int, 13), api.ErrFull}, {slices.Repeat([]int{-1}, 13), api.ErrFull}, {slices.Repeat([]int{99}, 20), api.ErrFull}, {stay(1000), api.ErrFull},
		{[]int{1}, api.ErrRange}, {[]int{-1}, api.ErrRange}, {[]int{0, 2}, api.ErrRange}, {[]int{0, -1}, api.ErrRange}, {[]int{1, 2, 3}, api.ErrRange},
		{[]int{math.MinInt}, api.ErrRange}, {[]int{math.MaxInt, 0}, api.ErrRange}, {[]int{0, 1, 2, 3, 4, 5, 6, 7, 8, 9, 10, 12}, api.ErrRange},
		{[]int{0, 0, 3}, api.ErrRange}, {[]int{3, 0, 0}, api.ErrRange}, {[]int{5, 5}, api.ErrRange}, {[]int{0, 0, -1}, api.ErrRange}, {slices.Repeat([]int{12}, 12), api.ErrRange},
		{[]int{0, 0}, api.ErrTwice}, {[]int{1, 1}, api.ErrTwice}, {[]int{0, 1, 0}, api.ErrTwice}, {[]int{2, 1, 2}, api.ErrTwice}, {make([]int, 12), api.ErrTwice},
		{[]int{0, 1, 2, 3, 4, 5, 6, 7, 8, 9, 10, 10}, api.ErrTwice}, {[]int{11, 1, 2, 3, 4, 5, 6, 7, 8, 9, 10, 11}, api.ErrTwice},
	}
}

// TestCheck has M1: what is wrong, and that all permutations are right.
func TestCheck(t *testing.T) {
	for _, c := range bads() {
		if e := perm.Check(c.a); e != c.want {
			t.Errorf("Check(%v): got %d, want %d", c.a, e, c.want)
		}
	}
	for _, a := range append(some(), nil, []int{}) {
		if e := perm.Check(a); e != api.OK {
			t.Errorf("Check(%v): error %d", a, e)
		}
	}
}

// TestCheckOfAllLists has M1: of all lists of few small numbers.
func TestCheckOfAllLists(t *testing.T) {
	lists := [][]int{nil}
	for n := 1; n <= 4; n++ {
		var longer [][]int
		for _, l := range lists {
			for last := -1; last <= 4; last++ {
				longer = append(longer, append(slices.Clone(l), last))
			}
		}
		lists = longer
		for _, l := range lists {
			want := api.OK
			rising := slices.Clone(l)
			slices.Sort(rising)
			if rising[0] < 0 || rising[n-1] >= n {
				want = api.ErrRange
			} else if !slices.Equal(rising, stay(n)) {
				want = api.ErrTwice
			}
			if e := perm.Check(l); e != want {
				t.Errorf("Check(%v): got %d, want %d", l, e, want)
			}
		}
	}
}

// wantError asks all that take one permutation for one error, and for nothing beside it (P1).
func wantError(t *testing.T, a []int, want api.Errno) {
	t.Helper()
	if got, e := perm.Inverse(a); e != want || len(got) != 0 {
		t.Errorf("Inverse(%v): got %v, error %d, want %d", a, got, e, want)
	}
	for _, n := range []int{0, 1, -1, 1 << 62, math.MaxInt, math.MinInt} {
		if got, e := perm.Power(a, n); e != want || len(got) != 0 {
			t.Errorf("Power(%v, %d): got %v, error %d, want %d", a, n, got, e, want)
		}
	}
	if got, e := perm.Kind(a); e != want || len(got) != 0 {
		t.Errorf("Kind(%v): got %v, error %d, want %d", a, got, e, want)
	}
	if got, e := perm.Cycles(a); e != want || got != "" {
		t.Errorf("Cycles(%v): got %q, error %d, want %d", a, got, e, want)
	}
	order, e1 := perm.Order(a)
	sign, e2 := perm.Sign(a)
	rank, e3 := perm.Rank(a)
	for i, e := range []api.Errno{e1, e2, e3} {
		if e != want || order != 0 || sign != 0 || rank != 0 {
			t.Errorf("%d of %v: got %d, %d, %d, error %d, want %d", i, a, order, sign, rank, e, want)
		}
	}
}

// wantErrorOfTwo asks both that take two.
func wantErrorOfTwo(t *testing.T, a, b []int, want api.Errno) {
	t.Helper()
	if got, e := perm.Compose(a, b); e != want || len(got) != 0 {
		t.Errorf("Compose(%v, %v): got %v, error %d, want %d", a, b, got, e, want)
	}
	if got, e := perm.Alike(a, b); e != want || got {
		t.Errorf("Alike(%v, %v): got %t, error %d, want %d", a, b, got, e, want)
	}
}

// TestCheckIsSaidFirst has M1: of the first permutation, then of the second, and ahead of all else.
func TestCheckIsSaidFirst(t *testing.T) {
	for _, c := range bads() {
		wantError(t, c.a, c.want)
		for _, good := range [][]int{nil, {0}, {1, 0}, {1, 2, 0}, stay(12)} {
			wantErrorOfTwo(t, c.a, good, c.want)
			wantErrorOfTwo(t, good, c.a, c.want)
		}
		for _, d := range bads() {
			wantErrorOfTwo(t, c.a, d.a, c.want)
		}
	}
}

// TestNotAsManyPoints has ErrShape of M2 and M4.
func TestNotAsManyPoints(t *testing.T) {
	for n := range api.MaxPoints + 1 {
		for m := range api.MaxPoints + 1 {
			if n != m {
				wantErrorOfTwo(t, mixed(n, 1), mixed(m, 2), api.ErrShape)
			}
		}
	}
}

// TestHowOften has M2's ErrRange of Power, beyond its bounds.
func TestHowOften(t *testing.T) {
	for _, a := range [][]int{nil, {0}, {1, 0}, {1, 2, 0}, mixed(12, 3)} {
		for _, n := range []int{1<<62 + 1, -1<<62 - 1, math.MaxInt, math.MinInt, 1<<62 + 1<<61} {
			if got, e := perm.Power(a, n); e != api.ErrRange || len(got) != 0 {
				t.Errorf("Power(%v, %d): got %v, error %d", a, n, got, e)
			}
		}
	}
}

// TestNoPoints has the edge of M1: there is one permutation of no points, of nil as of an empty list (P4).
func TestNoPoints(t *testing.T) {
	for _, a := range [][]int{nil, {}} {
		for _, b := range [][]int{nil, {}} {
			got, e := perm.Compose(a, b)
			wantList(t, "Compose", got, e, nil)
			if same, e := perm.Alike(a, b); !same || e != api.OK {
				t.Errorf("Alike: got %t, error %d", same, e)
			}
		}
		got, e := perm.Inverse(a)
		wantList(t, "Inverse", got, e, nil)
		got, e = perm.Power(a, 1<<62)
		wantList(t, "Power", got, e, nil)
		wantRank(t, a, 0)
		order, e := perm.Order(a)
		if order != 1 || e != api.OK {
			t.Errorf("Order: got %d, error %d", order, e)
		}
		cycles, e := perm.Cycles(a)
		if cycles != "()" || e != api.OK {
			t.Errorf("Cycles: got %q, error %d", cycles, e)
		}
	}
}

// TestNothingIsWrittenOrKept has P2 and P4: the lists, and what lies behind their length, stay; what is changed behind a call is not to be seen in its answer.
func TestNothingIsWrittenOrKept(t *testing.T) {
	wholeA, wholeB := []int{1, 2, 0, 4, 3, -7, 99}, []int{4, 3, 2, 1, 0, 0, 5}
	a, b := wholeA[:5], wholeB[:5]
	perm.Check(a)
	perm.Order(a)
	perm.Sign(a)
	perm.Cycles(a)
	perm.Rank(a)
	perm.Alike(a, b)
	composed, _ := perm.Compose(a, b)
	inverted, _ := perm.Inverse(a)
	once, _ := perm.Power(a, 1)
	back, _ := perm.Power(a, -1)
	none, _ := perm.Compose(a, stay(5))
	if !slices.Equal(wholeA, []int{1, 2, 0, 4, 3, -7, 99}) || !slices.Equal(wholeB, []int{4, 3, 2, 1, 0, 0, 5}) {
		t.Fatalf("written into: %v, %v", wholeA, wholeB)
	}
	clear(wholeA)
	clear(wholeB)
	wantList(t, "composed", composed, api.OK, []int{3, 2, 4, 0, 1})
	wantList(t, "inverted", inverted, api.OK, []int{2, 0, 1, 4, 3})
	wantList(t, "once", once, api.OK, []int{1, 2, 0, 4, 3})
	wantList(t, "back", back, api.OK, []int{2, 0, 1, 4, 3})
	wantList(t, "composed with what moves nothing", none, api.OK, []int{1, 2, 0, 4, 3})
}

// TestOneListForBoth has P2: the same list twice, told as of lists apart.
func TestOneListForBoth(t *testing.T) {
	a := []int{1, 2, 3, 0}
	got, e := perm.Compose(a, a)
	wantList(t, "Compose", got, e, []int{2, 3, 0, 1})
	if !alike(t, a, a) {
		t.Error("not alike itself")
	}
	wantList(t, "the list", a, api.OK, []int{1, 2, 3, 0})
}

// TestWhatComesOutIsFresh has P2: no two answers share memory.
func TestWhatComesOutIsFresh(t *testing.T) {
	calls := []func() []int{
		func() []int { out, _ := perm.Compose([]int{1, 0, 2}, []int{0, 2, 1}); return out },
		func() []int { out, _ := perm.Inverse([]int{1, 2, 0}); return out },
		func() []int { out, _ := perm.Power([]int{1, 2, 0}, 4); return out },
		func() []int { out, _ := perm.Parse("(0 2)", 4); return out },
		func() []int { out, _ := perm.Parse("()", 4); return out },
		func() []int { out, _ := perm.Unrank(4, 17); return out },
		func() []int { out, _ := perm.Kind([]int{1, 2, 0, 3}); return out },
	}
	for i, call := range calls {
		a, b := call(), call()
		want := slices.Clone(b)
		for j := range a[:cap(a)] {
			a[:cap(a)][j] = -1
		}
		if len(want) < 3 || !slices.Equal(b, want) || !slices.Equal(call(), want) {
			t.Errorf("call %d: got %v, want %v", i, b, want)
		}
	}
}

// TestNoNumberPanics has P1: each face at numbers from end to end, in each place.
func TestNoNumberPanics(t *testing.T) {
	ends := []int{math.MinInt, -1, 0, 1, 2, 11, 12, 13, math.MaxInt}
	for _, x := range ends {
		for _, y := range ends {
			perm.Unrank(x, y)
			for n := range 15 {
				a := slices.Repeat([]int{x}, n)
				b := stay(n)
				if n > 0 {
					b[n/2] = y
				}
				for _, list := range [][]int{a, b} {
					if e := perm.Check(list); e != api.OK {
						wantError(t, list, e)
						wantErrorOfTwo(t, list, b, e)
					}
					perm.Power(list, y)
				}
			}
		}
	}
}
