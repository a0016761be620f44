package subset_test

import (
	"math"
	"testing"

	"parterre/api"
	"parterre/subset"
)

// TestChains has K4: the brackets as they are written, for each n.
func TestChains(t *testing.T) {
	for n := range 11 {
		got, e := subset.Chains(n)
		wantLists(t, name("Chains", n), got, e, chainsOf(n), api.OK)
	}
}

// TestChainsAreAll has K4: each set stands once, each has one thing more than the one ahead, and the lists are in order by their first sets.
func TestChainsAreAll(t *testing.T) {
	for n := range 11 {
		lists, _ := subset.Chains(n)
		seen := make([]int, 1<<n)
		for at, list := range lists {
			if at > 0 && lists[at-1][0] >= list[0] {
				t.Errorf("%s: %v is behind %v", name("Chains", n), list, lists[at-1])
			}
			for i, set := range list {
				seen[set]++
				if i > 0 && (!liesWithin(list[i-1], set) || len(things(set)) != len(things(list[i-1]))+1) {
					t.Errorf("%s: %d comes behind %d", name("Chains", n), set, list[i-1])
				}
			}
		}
		for set, many := range seen {
			if many != 1 {
				t.Errorf("%s: %d stands there %d times", name("Chains", n), set, many)
			}
		}
	}
}

// TestChainsAreEven has K4 and K5: each goes from as many things as are lacking at its end, so that there are as many as sets of half of n.
func TestChainsAreEven(t *testing.T) {
	for n := range 11 {
		lists, _ := subset.Chains(n)
		if len(lists) != choose(n, n/2) {
			t.Errorf("%s: got %d lists, want %d", name("Chains", n), len(lists), choose(n, n/2))
		}
		for _, list := range lists {
			if len(things(list[0]))+len(things(list[len(list)-1])) != n {
				t.Errorf("%s: %v is not even", name("Chains", n), list)
			}
		}
	}
}

// TestChainsAsOneSees has K4: those of few things, as one writes them down.
func TestChainsAsOneSees(t *testing.T) {
	for n, want := range [][][]int{
		{{0}},
		{{0, 1}},
		{{0, 1, 3}, {2}},
		{{0, 1, 3, 7}, {2, 6}, {4, 5}},
		{{0, 1, 3, 7, 15}, {2, 6, 14}, {4, 5, 13}, {8, 9, 11}, {10}, {12}},
	} {
		got, e := subset.Chains(n)
		wantLists(t, name("Chains", n), got, e, want, api.OK)
	}
}

// TestChainsOfWrong has K4: n is none that may be.
func TestChainsOfWrong(t *testing.T) {
	for _, n := range []int{math.MinInt, -1 << 32, -11, -2, -1, 11, 12, 13, 62, 63, 64, 65, 1 << 32, 1<<32 + 2, math.MaxInt} {
		got, e := subset.Chains(n)
		wantLists(t, name("Chains", n), got, e, nil, api.ErrRange)
	}
}
