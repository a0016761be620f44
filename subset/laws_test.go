package subset_test

import (
	"math/big"
	"slices"
	"testing"

	"parterre/api"
	"parterre/subset"
)

// wantWide holds the Shadow of sets of k things against Least.
func wantWide(t *testing.T, n, k int, sets []int) {
	t.Helper()
	shadow, _ := subset.Shadow(n, sets)
	least, _ := subset.Least(len(sets), k)
	if len(shadow) < least {
		t.Errorf("%s: has %d sets, fewer than %d", name("Shadow", n, sets), len(shadow), least)
	}
}

// TestShadowsAreWide has K5: the Shadow of sets of k things has at least as many as Least says, for all sets of few things, and for strewn ones of many.
func TestShadowsAreWide(t *testing.T) {
	for n := 1; n <= 5; n++ {
		for k := 1; k <= n; k++ {
			sets := layer(n, k)
			for which := range 1 << len(sets) {
				var some []int
				for _, at := range things(which) {
					some = append(some, sets[at])
				}
				wantWide(t, n, k, some)
			}
		}
	}
	next := numbers(5)
	for n := 6; n <= 12; n++ {
		for k := 1; k <= n; k++ {
			sets := layer(n, k)
			for range 20 {
				wantWide(t, n, k, pick(sets, next(len(sets))+1, next))
			}
		}
	}
}

// TestLeastShadows has K5 and K1: of the first sets by rank the Shadow has just as many as Least says; they are rising, too.
func TestLeastShadows(t *testing.T) {
	for n := range 13 {
		for k := 1; k <= n; k++ {
			var sets []int
			for r := range choose(n, k) {
				list, _ := subset.Unrank(k, r)
				sets = append(sets, setOf(list))
				if choose(n, k) > 100 && r%7 != 0 {
					continue
				}
				shadow, e := subset.Shadow(n, sets)
				least, _ := subset.Least(len(sets), k)
				if e != api.OK || len(shadow) != least {
					t.Errorf("%s: has %d sets, error %d; want %d", name("Shadow", n, sets), len(shadow), e, least)
				}
			}
			if !slices.Equal(sets, layer(n, k)) {
				t.Errorf("%s: got %v", name("the ranks", n, k), sets)
			}
		}
	}
}

// wantNarrow holds sets that are Apart against what they may be at most.
func wantNarrow(t *testing.T, n int, sets []int) {
	t.Helper()
	sum := new(big.Rat)
	for _, set := range sets {
		sum.Add(sum, big.NewRat(1, int64(choose(n, len(things(set))))))
	}
	if sum.Cmp(big.NewRat(1, 1)) > 0 || len(sets) > choose(n, n/2) {
		t.Errorf("%s: are %d, the sum is %s", name("sets that are Apart", n, sets), len(sets), sum)
	}
}

// TestApartAreFew has K5: of sets that are Apart the sum is 1 at most, and they are no more than the ways to choose half; a whole layer comes up to it.
func TestApartAreFew(t *testing.T) {
	for n := range 5 {
		most := 0
		for which := range 1 << (1 << n) {
			sets := family(which)
			if apart, _ := subset.Apart(n, sets); apart {
				wantNarrow(t, n, sets)
				most = max(most, len(sets))
			}
		}
		if most != choose(n, n/2) {
			t.Errorf("of %d things %d sets are Apart at most", n, most)
		}
	}
	next := numbers(6)
	for n := 5; n <= 12; n++ {
		for range 20 {
			var sets []int
			for range 400 {
				with := append(slices.Clone(sets), next(1<<n))
				slices.Sort(with)
				with = slices.Compact(with)
				if apart, _ := subset.Apart(n, with); apart {
					sets = with
				}
			}
			wantNarrow(t, n, sets)
		}
	}
}

// TestApartInChains has K5: no two sets of one of the Chains are Apart.
func TestApartInChains(t *testing.T) {
	for n := range 11 {
		lists, _ := subset.Chains(n)
		for _, list := range lists {
			for i, a := range list {
				for _, b := range list[:i] {
					apart, e := subset.Apart(n, []int{b, a})
					wantTruth(t, name("Apart", n, b, a), apart, e, false, api.OK)
				}
			}
		}
	}
}

// TestCrossAreFew has K5: sets of k of n things, 2 k not above n, that Cross are no more than the ways to choose k - 1 of n - 1; those with one thing come up to it.
func TestCrossAreFew(t *testing.T) {
	for n := 2; n <= 5; n++ {
		for k := 1; 2*k <= n; k++ {
			sets, most := layer(n, k), 0
			for which := range 1 << len(sets) {
				var some []int
				for _, at := range things(which) {
					some = append(some, sets[at])
				}
				if cross, _ := subset.Cross(n, some); cross {
					most = max(most, len(some))
				}
			}
			if most != choose(n-1, k-1) {
				t.Errorf("%d sets of %d of %d things Cross at most, want %d", most, k, n, choose(n-1, k-1))
			}
		}
	}
	next := numbers(8)
	for n := 6; n <= 12; n++ {
		for k := 1; 2*k <= n; k++ {
			sets := layer(n, k)
			star := slices.DeleteFunc(slices.Clone(sets), func(set int) bool { return set&1 == 0 })
			if cross, _ := subset.Cross(n, star); !cross || len(star) != choose(n-1, k-1) {
				t.Errorf("%s: got %t", name("Cross", n, star), cross)
			}
			var some []int
			for range 300 {
				with := append(slices.Clone(some), sets[next(len(sets))])
				slices.Sort(with)
				with = slices.Compact(with)
				if cross, _ := subset.Cross(n, with); cross {
					some = with
				}
			}
			if len(some) > choose(n-1, k-1) {
				t.Errorf("%s: are %d", name("sets that Cross", n, some), len(some))
			}
		}
	}
}
