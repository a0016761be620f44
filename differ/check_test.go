package differ_test

import (
	"math"
	"slices"
	"testing"

	"parterre/api"
	"parterre/differ"
)

// wrong is a set, and what is wrong with it.
type wrong struct {
	ring
	want api.Errno
}

// wrongOnes has each error of D1; where several apply, the one that is said first.
func wrongOnes() []wrong {
	return []wrong{
		{ring{0, nil}, api.ErrRange},
		{ring{-1, nil}, api.ErrRange},
		{ring{61, nil}, api.ErrRange},
		{ring{61, []int{1, 0}}, api.ErrRange},
		{ring{0, []int{0}}, api.ErrRange},
		{ring{0, []int{1, 0}}, api.ErrRange},
		{ring{-7, []int{-1}}, api.ErrRange},
		{ring{math.MinInt, []int{1, 0}}, api.ErrRange},
		{ring{math.MaxInt, []int{1, 0}}, api.ErrRange},
		{ring{1<<32 + 7, []int{1, 2, 4}}, api.ErrRange},
		{ring{1, []int{1}}, api.ErrRange},
		{ring{1, []int{-1}}, api.ErrRange},
		{ring{7, []int{-1, 2, 4}}, api.ErrRange},
		{ring{7, []int{1, 2, 7}}, api.ErrRange},
		{ring{7, []int{8, 9, 11}}, api.ErrRange},
		{ring{7, []int{2, 1, 7}}, api.ErrRange},
		{ring{7, []int{1, 1, -1}}, api.ErrRange},
		{ring{7, []int{1, 2, math.MaxInt}}, api.ErrRange},
		{ring{7, []int{math.MinInt, 2, 4}}, api.ErrRange},
		{ring{60, []int{0, 60}}, api.ErrRange},
		{ring{60, append(slices.Repeat([]int{3}, 100), 60)}, api.ErrRange},
		{ring{1, []int{0, 0}}, api.ErrShape},
		{ring{2, []int{1, 0}}, api.ErrShape},
		{ring{3, []int{2, 1}}, api.ErrShape},
		{ring{7, []int{1, 4, 2}}, api.ErrShape},
		{ring{7, []int{2, 1, 4}}, api.ErrShape},
		{ring{7, []int{1, 2, 2}}, api.ErrShape},
		{ring{7, []int{1, 1, 2}}, api.ErrShape},
		{ring{41, []int{1, 0}}, api.ErrShape},
		{ring{60, []int{59, 59}}, api.ErrShape},
		{ring{60, append(whole(60).set, 0)}, api.ErrShape},
		{ring{60, slices.Repeat([]int{3}, 100)}, api.ErrShape},
	}
}

// TestCheck has D1's errors, and the next three, which say them first and nothing beside them (P1).
func TestCheck(t *testing.T) {
	for _, w := range wrongOnes() {
		if e := differ.Check(w.v, w.set); e != w.want {
			t.Errorf("%s: got %d, want %d", name("Check", w.ring), e, w.want)
		}
		n, e := differ.Level(w.v, w.set)
		wantNumber(t, name("Level", w.ring), n, e, 0, w.want)
		d, e := differ.Develop(w.v, w.set)
		wantDesign(t, name("Develop", w.ring), d, e, api.Design{}, w.want)
		m, e := differ.Multipliers(w.v, w.set)
		wantList(t, name("Multipliers", w.ring), m, e, nil, w.want)
	}
}

// TestCheckFindsNothing has D1: sets of each v, the empty one and the whole one among them.
func TestCheckFindsNothing(t *testing.T) {
	if api.MaxRing != 60 {
		t.Errorf("MaxRing is %d", api.MaxRing)
	}
	sets := strewn()
	for v := 1; v <= 60; v++ {
		sets = append(sets, whole(v), ring{v, nil}, ring{v, []int{v - 1}}, ring{v, []int{0}})
	}
	for _, r := range sets {
		if e := differ.Check(r.v, r.set); e != api.OK {
			t.Errorf("%s: got %d", name("Check", r), e)
		}
	}
}

// TestCheckOfAllShort has D1: all lists of up to 3 numbers, from -1 to v.
func TestCheckOfAllShort(t *testing.T) {
	for v := 1; v <= 6; v++ {
		lists := [][]int{{}}
		for i := 0; i < len(lists); i++ {
			list := lists[i]
			want := api.OK
			if slices.Contains(list, -1) || slices.Contains(list, v) {
				want = api.ErrRange
			} else if !slices.IsSorted(list) || len(slices.Compact(slices.Clone(list))) < len(list) {
				want = api.ErrShape
			}
			if e := differ.Check(v, list); e != want {
				t.Errorf("%s: got %d, want %d", name("Check", ring{v, list}), e, want)
			}
			for x := -1; x <= v && len(list) < 3; x++ {
				lists = append(lists, append(slices.Clone(list), x))
			}
		}
	}
}
