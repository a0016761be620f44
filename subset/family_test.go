package subset_test

import (
	"math"
	"slices"
	"testing"

	"parterre/api"
	"parterre/subset"
)

// wantFamily holds all that is told of a family against the words of K2.
func wantFamily(t *testing.T, n int, sets []int) {
	t.Helper()
	wantError(t, name("Check", n, sets), subset.Check(n, sets), api.OK)
	shadow, e := subset.Shadow(n, sets)
	wantList(t, name("Shadow", n, sets), shadow, e, shadowOf(sets), api.OK)
	apart, e := subset.Apart(n, sets)
	wantTruth(t, name("Apart", n, sets), apart, e, isApart(sets), api.OK)
	cross, e := subset.Cross(n, sets)
	wantTruth(t, name("Cross", n, sets), cross, e, doesCross(sets), api.OK)
}

// wantWrongFamily holds an error against what each face says first.
func wantWrongFamily(t *testing.T, n int, sets []int, want api.Errno) {
	t.Helper()
	wantError(t, name("Check", n, sets), subset.Check(n, sets), want)
	shadow, e := subset.Shadow(n, sets)
	wantList(t, name("Shadow", n, sets), shadow, e, nil, want)
	apart, e := subset.Apart(n, sets)
	wantTruth(t, name("Apart", n, sets), apart, e, false, want)
	cross, e := subset.Cross(n, sets)
	wantTruth(t, name("Cross", n, sets), cross, e, false, want)
}

// TestEachFamily has K2: all families of up to 3 things, and of 4 as far as Apart and Cross go.
func TestEachFamily(t *testing.T) {
	for n := range 4 {
		for which := range 1 << (1 << n) {
			wantFamily(t, n, family(which))
		}
	}
	for which := range 1 << 16 {
		sets := family(which)
		apart, e := subset.Apart(4, sets)
		wantTruth(t, name("Apart", 4, sets), apart, e, isApart(sets), api.OK)
		cross, e := subset.Cross(4, sets)
		wantTruth(t, name("Cross", 4, sets), cross, e, doesCross(sets), api.OK)
	}
}

// TestFamiliesOfMany has K2: strewn families and whole layers of up to 12 things.
func TestFamiliesOfMany(t *testing.T) {
	for n := range 13 {
		for _, sets := range families(n) {
			wantFamily(t, n, sets)
		}
	}
}

// TestFamilyOfFewMoreThings has K2: the same sets are told the same of more things.
func TestFamilyOfFewMoreThings(t *testing.T) {
	next := numbers(4)
	for range 200 {
		which := next(1 << 16)
		for n := 4; n <= 12; n++ {
			wantFamily(t, n, family(which))
		}
	}
}

// TestFamiliesAsOneSees has K2: some that are written down.
func TestFamiliesAsOneSees(t *testing.T) {
	for _, some := range []struct {
		n            int
		sets, shadow []int
		apart, cross bool
	}{
		{0, nil, nil, true, true},
		{12, nil, nil, true, true},
		{0, []int{0}, nil, true, false},
		{5, []int{0}, nil, true, false},
		{1, []int{1}, []int{0}, true, true},
		{1, []int{0, 1}, []int{0}, false, false},
		{2, []int{1, 2}, []int{0}, true, false},
		{2, []int{1, 3}, []int{0, 1, 2}, false, true},
		{3, []int{3, 5, 6}, []int{1, 2, 4}, true, true},
		{3, []int{3, 4}, []int{0, 1, 2}, true, false},
		{3, []int{0, 7}, []int{3, 5, 6}, false, false},
		{4, []int{3, 12}, []int{1, 2, 4, 8}, true, false},
		{4, []int{3, 13}, []int{1, 2, 5, 9, 12}, true, true},
		{4, []int{3, 6, 12}, []int{1, 2, 4, 8}, true, false},
		{12, []int{1, 4094}, []int{0, 2046, 3070, 3582, 3838, 3966, 4030, 4062, 4078, 4086, 4090, 4092}, true, false},
		{12, []int{2048, 4095}, []int{0, 2047, 3071, 3583, 3839, 3967, 4031, 4063, 4079, 4087, 4091, 4093, 4094}, false, true},
		{12, []int{4095}, []int{2047, 3071, 3583, 3839, 3967, 4031, 4063, 4079, 4087, 4091, 4093, 4094}, true, true},
	} {
		shadow, e := subset.Shadow(some.n, some.sets)
		wantList(t, name("Shadow", some.n, some.sets), shadow, e, some.shadow, api.OK)
		apart, e := subset.Apart(some.n, some.sets)
		wantTruth(t, name("Apart", some.n, some.sets), apart, e, some.apart, api.OK)
		cross, e := subset.Cross(some.n, some.sets)
		wantTruth(t, name("Cross", some.n, some.sets), cross, e, some.cross, api.OK)
	}
}

// TestFamilyOfWrong has K2: the errors, each where a later one would apply as well.
func TestFamilyOfWrong(t *testing.T) {
	all := make([]int, 4097)
	for i := range all {
		all[i] = i
	}
	for _, some := range []struct {
		n    int
		sets []int
		want api.Errno
	}{
		{-1, nil, api.ErrRange},
		{13, nil, api.ErrRange},
		{-1, []int{0}, api.ErrRange},
		{13, []int{0}, api.ErrRange},
		{13, all, api.ErrRange},
		{-1, all, api.ErrRange},
		{64, []int{0}, api.ErrRange},
		{64, []int{1, 0}, api.ErrRange},
		{13, []int{-1}, api.ErrRange},
		{math.MinInt, []int{0}, api.ErrRange},
		{math.MaxInt, []int{0}, api.ErrRange},
		{1 << 32, []int{0}, api.ErrRange},
		{1<<32 + 2, []int{0}, api.ErrRange},
		{12, all, api.ErrFull},
		{0, all, api.ErrFull},
		{12, append([]int{-1}, all[1:]...), api.ErrFull},
		{12, make([]int, 4097), api.ErrFull},
		{3, slices.Repeat([]int{-1}, 5000), api.ErrFull},
		{12, make([]int, 4096), api.ErrShape},
		{11, all[:4096], api.ErrRange},
		{0, []int{1}, api.ErrRange},
		{0, []int{-1}, api.ErrRange},
		{0, []int{0, 1}, api.ErrRange},
		{1, []int{2}, api.ErrRange},
		{3, []int{8}, api.ErrRange},
		{3, []int{0, 1, -1}, api.ErrRange},
		{3, []int{1, 0, 8}, api.ErrRange},
		{3, []int{2, 2, 9}, api.ErrRange},
		{3, []int{8, 8}, api.ErrRange},
		{12, []int{4096}, api.ErrRange},
		{12, []int{0, math.MaxInt}, api.ErrRange},
		{12, []int{math.MinInt, 0}, api.ErrRange},
		{12, []int{1 << 32}, api.ErrRange},
		{0, []int{0, 0}, api.ErrShape},
		{3, []int{1, 0}, api.ErrShape},
		{3, []int{7, 7}, api.ErrShape},
		{3, []int{0, 2, 1}, api.ErrShape},
		{3, []int{0, 1, 1}, api.ErrShape},
		{12, []int{4095, 0}, api.ErrShape},
	} {
		wantWrongFamily(t, some.n, some.sets, some.want)
	}
	wantFamily(t, 12, all[:4096])
}

// TestFamilyOfEachList has K2: all lists of few numbers about the bounds, of any n about the bounds.
func TestFamilyOfEachList(t *testing.T) {
	for n := -3; n <= 15; n++ {
		top := 2
		if n > 0 && n < 13 {
			top = 1 << n
		}
		for _, ends := range [][2]int{{-2, 2}, {top - 3, top + 1}} {
			for many := range 4 {
				for _, list := range every(ends[0], ends[1], many) {
					if want := wrongFamily(n, list); want != api.OK {
						wantWrongFamily(t, n, list, want)
					} else {
						wantError(t, name("Check", n, list), subset.Check(n, list), api.OK)
					}
				}
			}
		}
	}
}

// TestHowManyFamilies has K2: how many of all families of few things are Apart (Dedekind), and how many Cross.
func TestHowManyFamilies(t *testing.T) {
	for n, want := range [][2]int{{2, 1}, {3, 2}, {6, 6}, {20, 40}, {168, 1376}} {
		apart, cross := 0, 0
		for which := range 1 << (1 << n) {
			if yes, _ := subset.Apart(n, family(which)); yes {
				apart++
			}
			if yes, _ := subset.Cross(n, family(which)); yes {
				cross++
			}
		}
		if apart != want[0] || cross != want[1] {
			t.Errorf("of %d things %d families are Apart, %d Cross; want %v", n, apart, cross, want)
		}
	}
}
