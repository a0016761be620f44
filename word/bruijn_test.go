package word_test

import (
	"math"
	"slices"
	"testing"

	"parterre/api"
	"parterre/word"
)

// sizes has all k and n for which Bruijn answers.
func sizes() [][2]int {
	var out [][2]int
	for k := 1; k <= 10; k++ {
		for n := 1; n <= 12 && !isMore(k, n, 4096); n++ {
			out = append(out, [2]int{k, n})
		}
	}
	return out
}

// TestBruijn has W4: each list of n numbers stands just once in it, and it is the first such, at all sizes.
func TestBruijn(t *testing.T) {
	for _, size := range sizes() {
		k, n := size[0], size[1]
		got, e := word.Bruijn(k, n)
		if !standsOnce(k, n, got) {
			t.Errorf("%s: not each list stands there once", name("Bruijn", k, n))
		}
		wantList(t, name("Bruijn", k, n), got, e, firstRound(k, n), api.OK)
	}
}

// TestBruijnOfAll has W4: the first of all lists in which each list of n numbers stands once, of those that can be gone through.
func TestBruijnOfAll(t *testing.T) {
	for _, size := range [][2]int{{1, 1}, {1, 2}, {1, 12}, {2, 1}, {2, 2}, {2, 3}, {2, 4}, {3, 1}, {3, 2}, {4, 1}, {5, 1}, {6, 1}} {
		k, n := size[0], size[1]
		all := every(k, power(k, n))
		at := slices.IndexFunc(all, func(list []int) bool { return standsOnce(k, n, list) })
		got, e := word.Bruijn(k, n)
		wantList(t, name("Bruijn", k, n), got, e, all[at], api.OK)
	}
}

// TestBruijnIsLyndonWords has W5: it is all Lyndon words of lengths that divide n, in order.
func TestBruijnIsLyndonWords(t *testing.T) {
	for _, size := range sizes() {
		k, n := size[0], size[1]
		var want []int
		for _, list := range lyndons(k, n) {
			if n%len(list) == 0 {
				want = append(want, list...)
			}
		}
		got, e := word.Bruijn(k, n)
		wantList(t, name("Bruijn", k, n), got, e, want, api.OK)
	}
}

// TestBruijnOfWrong has W4: its errors, the first of them.
func TestBruijnOfWrong(t *testing.T) {
	for _, some := range []struct {
		k, n int
		want api.Errno
	}{
		{0, 1, api.ErrRange},
		{-1, 2, api.ErrRange},
		{11, 1, api.ErrRange},
		{64, 2, api.ErrRange},
		{1, 0, api.ErrRange},
		{2, -1, api.ErrRange},
		{2, 0, api.ErrRange},
		{10, 0, api.ErrRange},
		{0, 13, api.ErrRange},
		{11, 13, api.ErrRange},
		{11, 4, api.ErrRange},
		{-2, 12, api.ErrRange},
		{math.MinInt, 1, api.ErrRange},
		{math.MaxInt, 1, api.ErrRange},
		{math.MaxInt, math.MaxInt, api.ErrRange},
		{1 << 32, 2, api.ErrRange},
		{1<<32 + 2, 2, api.ErrRange},
		{2, math.MinInt, api.ErrRange},
		{2, 13, api.ErrFull},
		{1, 13, api.ErrFull},
		{1, 60, api.ErrFull},
		{1, math.MaxInt, api.ErrFull},
		{3, 8, api.ErrFull},
		{4, 7, api.ErrFull},
		{5, 6, api.ErrFull},
		{6, 5, api.ErrFull},
		{7, 5, api.ErrFull},
		{8, 5, api.ErrFull},
		{9, 4, api.ErrFull},
		{10, 4, api.ErrFull},
		{10, 12, api.ErrFull},
		{2, 63, api.ErrFull},
		{2, 64, api.ErrFull},
		{4, 32, api.ErrFull},
		{10, math.MaxInt, api.ErrFull},
	} {
		got, e := word.Bruijn(some.k, some.n)
		wantList(t, name("Bruijn", some.k, some.n), got, e, nil, some.want)
	}
}

// TestBruijnOfSizes has W4: which k and n about the bounds may be.
func TestBruijnOfSizes(t *testing.T) {
	for k := -3; k <= 14; k++ {
		for n := -3; n <= 70; n++ {
			want := api.OK
			switch {
			case k < 1 || k > 10 || n < 1:
				want = api.ErrRange
			case n > 12 || isMore(k, n, 4096):
				want = api.ErrFull
			}
			got, e := word.Bruijn(k, n)
			if e != want || want == api.OK && len(got) != power(k, n) || want != api.OK && len(got) > 0 {
				t.Errorf("%s: got %s, error %d; want error %d", name("Bruijn", k, n), name("", got), e, want)
			}
		}
	}
}
