package subset_test

import (
	"math"
	"slices"
	"testing"

	"parterre/api"
	"parterre/subset"
)

// TestRankOfFew has K1: all lists of few numbers, and back.
func TestRankOfFew(t *testing.T) {
	for k, most := range []int{60, 61, 61, 20, 14, 12, 12, 12, 12, 12, 12, 12, 12} {
		for _, list := range rising(most, k) {
			want := rankOf(list)
			got, e := subset.Rank(list)
			wantNumber(t, name("Rank", list), got, e, want, api.OK)
			back, e := subset.Unrank(k, want)
			wantList(t, name("Unrank", k, want), back, e, list, api.OK)
		}
	}
}

// TestRanksAreAll has K1: the lists of k numbers below n have just the ranks below the ways to choose k of n.
func TestRanksAreAll(t *testing.T) {
	for n := range 13 {
		for k := range n + 1 {
			var ranks []int
			for _, list := range rising(n, k) {
				got, _ := subset.Rank(list)
				ranks = append(ranks, got)
			}
			slices.Sort(ranks)
			if len(slices.Compact(ranks)) != choose(n, k) || ranks[0] != 0 || ranks[len(ranks)-1] != choose(n, k)-1 {
				t.Errorf("%s: got %v", name("the ranks", n, k), ranks)
			}
		}
	}
}

// TestRankOfMany has K1: strewn lists of each length, and back.
func TestRankOfMany(t *testing.T) {
	next := numbers(1)
	for k := range 31 {
		for range 200 {
			list := strewn(61, k, next)
			want := rankOf(list)
			got, e := subset.Rank(list)
			wantNumber(t, name("Rank", list), got, e, want, api.OK)
			back, e := subset.Unrank(k, want)
			wantList(t, name("Unrank", k, want), back, e, list, api.OK)
		}
	}
}

// TestRanksAtTheEnds has K1: the first and the last list of each length, those where the last number rises, and what is beyond them.
func TestRanksAtTheEnds(t *testing.T) {
	for k := range 31 {
		for _, r := range []int{-1, choose(61, k), choose(61, k) + 1, math.MinInt, math.MaxInt} {
			got, e := subset.Unrank(k, r)
			wantList(t, name("Unrank", k, r), got, e, nil, api.ErrRange)
		}
		for a := k; a <= 61; a++ {
			list := make([]int, k)
			for i := range list {
				list[i] = a - k + i
			}
			got, e := subset.Unrank(k, choose(a, k)-1)
			wantList(t, name("Unrank", k, choose(a, k)-1), got, e, list, api.OK)
			if k > 0 && a < 61 {
				for i := range list {
					list[i] = i
				}
				list[k-1] = a
				got, e = subset.Unrank(k, choose(a, k))
				wantList(t, name("Unrank", k, choose(a, k)), got, e, list, api.OK)
			}
		}
	}
}

// TestRankAsOneSees has K1: some ranks that are written down.
func TestRankAsOneSees(t *testing.T) {
	for _, some := range []struct {
		list []int
		want int
	}{
		{nil, 0},
		{[]int{0}, 0},
		{[]int{60}, 60},
		{[]int{0, 1}, 0},
		{[]int{0, 60}, 1770},
		{[]int{59, 60}, 1829},
		{[]int{58, 59, 60}, 35989},
		{[]int{31, 32, 33, 34, 35, 36, 37, 38, 39, 40, 41, 42, 43, 44, 45, 46, 47, 48, 49, 50, 51, 52, 53, 54, 55, 56, 57, 58, 59, 60}, 232714176627630543},
	} {
		got, e := subset.Rank(some.list)
		wantNumber(t, name("Rank", some.list), got, e, some.want, api.OK)
	}
}

// TestRankOfWrong has K1: the errors, each where a later one would apply as well.
func TestRankOfWrong(t *testing.T) {
	long := strewn(61, 31, numbers(2))
	for _, some := range []struct {
		list []int
		want api.Errno
	}{
		{long, api.ErrFull},
		{strewn(61, 61, numbers(2)), api.ErrFull},
		{make([]int, 31), api.ErrFull},
		{slices.Repeat([]int{61}, 31), api.ErrFull},
		{slices.Repeat([]int{-1}, 100), api.ErrFull},
		{append(slices.Clone(long[:30]), 61), api.ErrFull},
		{append([]int{-1}, long[1:30]...), api.ErrRange},
		{[]int{61}, api.ErrRange},
		{[]int{-1}, api.ErrRange},
		{[]int{0, 1, 61}, api.ErrRange},
		{[]int{-1, 0}, api.ErrRange},
		{[]int{1, 0, 61}, api.ErrRange},
		{[]int{5, 5, -3}, api.ErrRange},
		{[]int{61, 61}, api.ErrRange},
		{slices.Repeat([]int{61}, 30), api.ErrRange},
		{[]int{math.MinInt}, api.ErrRange},
		{[]int{0, math.MaxInt}, api.ErrRange},
		{[]int{1 << 32}, api.ErrRange},
		{[]int{1, 0}, api.ErrShape},
		{[]int{3, 3}, api.ErrShape},
		{[]int{0, 0}, api.ErrShape},
		{[]int{60, 60}, api.ErrShape},
		{[]int{0, 2, 1}, api.ErrShape},
		{[]int{0, 1, 2, 2}, api.ErrShape},
		{[]int{2, 0, 1}, api.ErrShape},
		{make([]int, 30), api.ErrShape},
	} {
		got, e := subset.Rank(some.list)
		wantNumber(t, name("Rank", some.list), got, e, 0, some.want)
	}
}

// TestRankOfEachList has K1: all lists of few numbers about the bounds.
func TestRankOfEachList(t *testing.T) {
	for _, ends := range [][2]int{{-2, 4}, {57, 62}} {
		for n := range 5 {
			for _, list := range every(ends[0], ends[1], n) {
				wantError := wrongRank(list)
				want := 0
				if wantError == api.OK {
					want = rankOf(list)
				}
				got, e := subset.Rank(list)
				wantNumber(t, name("Rank", list), got, e, want, wantError)
			}
		}
	}
}

// TestUnrankOfWrong has K1: which k may be, and which ranks there are.
func TestUnrankOfWrong(t *testing.T) {
	for _, k := range []int{math.MinInt, -1 << 32, -31, -2, -1, 31, 32, 60, 61, 62, 64, 1 << 32, 1<<32 + 2, math.MaxInt} {
		for _, r := range []int{math.MinInt, -1, 0, 1, 60, math.MaxInt} {
			got, e := subset.Unrank(k, r)
			wantList(t, name("Unrank", k, r), got, e, nil, api.ErrRange)
		}
	}
	got, e := subset.Unrank(0, 0)
	wantList(t, "Unrank of 0, 0", got, e, nil, api.OK)
	got, e = subset.Unrank(0, 1)
	wantList(t, "Unrank of 0, 1", got, e, nil, api.ErrRange)
	got, e = subset.Unrank(1, 60)
	wantList(t, "Unrank of 1, 60", got, e, []int{60}, api.OK)
	got, e = subset.Unrank(1, 61)
	wantList(t, "Unrank of 1, 61", got, e, nil, api.ErrRange)
}
