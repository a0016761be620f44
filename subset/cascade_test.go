package subset_test

import (
	"math"
	"testing"

	"parterre/api"
	"parterre/subset"
)

// wantCascade holds a Cascade, and the Least of it, against the words of K3.
func wantCascade(t *testing.T, m, k int) {
	t.Helper()
	list, e := subset.Cascade(m, k)
	if e != api.OK || !isCascade(m, k, list) {
		t.Errorf("%s: got %v, error %d", name("Cascade", m, k), list, e)
	}
	got, e := subset.Least(m, k)
	wantNumber(t, name("Least", m, k), got, e, leastOf(list, k), api.OK)
}

// TestCascadeOfFew has K3: the fewest numbers of all ways to take m apart, of which there is just one.
func TestCascadeOfFew(t *testing.T) {
	for k := 1; k <= 6; k++ {
		for m := range 50 {
			all := cascadeOf(m, k)
			if len(all) != 1 {
				t.Fatalf("%s: is not just one: %v", name("Cascade", m, k), all)
			}
			got, e := subset.Cascade(m, k)
			wantList(t, name("Cascade", m, k), got, e, all[0], api.OK)
			least, e := subset.Least(m, k)
			wantNumber(t, name("Least", m, k), least, e, leastOf(all[0], k), api.OK)
		}
	}
}

// TestCascade has K3: each m up to 1000, with each k.
func TestCascade(t *testing.T) {
	for k := 1; k <= 30; k++ {
		for m := range 1001 {
			wantCascade(t, m, k)
		}
	}
}

// TestCascadeOfMany has K3: strewn m up to 10^9, those about each number of ways, and the greatest.
func TestCascadeOfMany(t *testing.T) {
	next := numbers(3)
	for k := 1; k <= 30; k++ {
		for _, most := range []int{1e5, 1e7, 1e9} {
			for range 100 {
				wantCascade(t, next(most)+1, k)
			}
		}
		for m := int(1e9) - 50; m <= 1e9; m++ {
			wantCascade(t, m, k)
		}
		for a := k; !isMore(a, k, 1e9); a++ {
			if a > 3000 {
				a += next(a / 20)
			}
			for m := choose(a, k) - 1; m <= min(choose(a, k)+1, 1e9); m++ {
				wantCascade(t, m, k)
			}
		}
	}
}

// TestCascadeAsOneSees has K3: some that are written down.
func TestCascadeAsOneSees(t *testing.T) {
	for _, some := range []struct {
		m, k  int
		list  []int
		least int
	}{
		{0, 1, nil, 0},
		{0, 30, nil, 0},
		{1, 1, []int{1}, 1},
		{7, 1, []int{7}, 1},
		{1000000000, 1, []int{1000000000}, 1},
		{1, 2, []int{2}, 2},
		{2, 2, []int{2, 1}, 3},
		{3, 2, []int{3}, 3},
		{999961560, 2, []int{44721}, 44721},
		{1000000000, 2, []int{44721, 38440}, 44722},
		{1, 30, []int{30}, 30},
		{2, 30, []int{30, 29}, 59},
		{30, 30, []int{30, 29, 28, 27, 26, 25, 24, 23, 22, 21, 20, 19, 18, 17, 16, 15, 14, 13, 12, 11, 10, 9, 8, 7, 6, 5, 4, 3, 2, 1}, 465},
		{31, 30, []int{31}, 465},
		{847660528, 30, []int{40}, 2311801440},
		{10, 3, []int{5}, 10},
		{12, 3, []int{5, 2, 1}, 13},
		{13, 3, []int{5, 3}, 13},
	} {
		list, e := subset.Cascade(some.m, some.k)
		wantList(t, name("Cascade", some.m, some.k), list, e, some.list, api.OK)
		least, e := subset.Least(some.m, some.k)
		wantNumber(t, name("Least", some.m, some.k), least, e, some.least, api.OK)
	}
}

// TestCascadeOfWrong has K3: the errors, the range of both ahead of what is too much.
func TestCascadeOfWrong(t *testing.T) {
	ms := []int{math.MinInt, -1 << 32, -1e9, -2, -1, 0, 1, 2, 999999999, 1000000000, 1000000001, 1 << 31, 1 << 32, 1<<32 + 5, math.MaxInt - 31, math.MaxInt - 1, math.MaxInt}
	ks := []int{math.MinInt, -1 << 32, -30, -2, -1, 0, 1, 2, 3, 29, 30, 31, 32, 60, 64, 1 << 32, 1<<32 + 2, math.MaxInt}
	for _, m := range ms {
		for _, k := range ks {
			want := wrongSum(m, k)
			if want == api.OK {
				wantCascade(t, m, k)
				continue
			}
			list, e := subset.Cascade(m, k)
			wantList(t, name("Cascade", m, k), list, e, nil, want)
			least, e := subset.Least(m, k)
			wantNumber(t, name("Least", m, k), least, e, 0, want)
		}
	}
}
