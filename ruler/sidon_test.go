package ruler_test

import (
	"math"
	"slices"
	"testing"

	"parterre/api"
	"parterre/ruler"
)

// TestSidonOfWrongOnes has R3: what differ's Check says comes first.
func TestSidonOfWrongOnes(t *testing.T) {
	for _, c := range []struct {
		set  []int
		v    int
		want api.Errno
	}{
		{nil, 0, api.ErrRange},
		{nil, -1, api.ErrRange},
		{nil, 61, api.ErrRange},
		{[]int{0, 1, 3}, 61, api.ErrRange},
		{[]int{0, 1, 3}, math.MaxInt, api.ErrRange},
		{[]int{0, 1, 3}, math.MinInt, api.ErrRange},
		{[]int{0, 1, 3}, 1<<32 + 7, api.ErrRange},
		{[]int{1, 0}, 0, api.ErrRange},
		{[]int{0, 1, 7}, 7, api.ErrRange},
		{[]int{-1, 1, 3}, 7, api.ErrRange},
		{[]int{3, 1, 7}, 7, api.ErrRange},
		{[]int{math.MinInt, math.MaxInt}, 7, api.ErrRange},
		{[]int{0, 60}, 60, api.ErrRange},
		{[]int{1}, 1, api.ErrRange},
		{[]int{1, 0}, 7, api.ErrShape},
		{[]int{0, 3, 1}, 7, api.ErrShape},
		{[]int{0, 0}, 1, api.ErrShape},
		{[]int{0, 1, 1}, 60, api.ErrShape},
		{slices.Repeat([]int{3}, 1000), 60, api.ErrShape},
	} {
		got, e := ruler.Sidon(c.set, c.v)
		wantBool(t, name("Sidon", c.set, ", ", c.v), got, e, false, c.want)
	}
}

// TestSidonOfAll has R3: each set modulo up to 12.
func TestSidonOfAll(t *testing.T) {
	for v := 1; v <= 12; v++ {
		for _, set := range allSets(v) {
			got, e := ruler.Sidon(set, v)
			wantBool(t, name("Sidon", set, ", ", v), got, e, sidon(set, v), api.OK)
		}
	}
}

// TestSidonOfFew has R3: each set of three, and strewn ones of more, modulo up to 60.
func TestSidonOfFew(t *testing.T) {
	yes, no := 0, 0
	ask := func(set []int, v int) {
		want := sidon(set, v)
		if want {
			yes++
		} else {
			no++
		}
		got, e := ruler.Sidon(set, v)
		wantBool(t, name("Sidon", set, ", ", v), got, e, want, api.OK)
	}
	for v := 13; v <= 60; v += 3 {
		for _, set := range chosen(3, 0, v-1) {
			ask(set, v)
		}
	}
	for v := 13; v <= 60; v++ {
		next := numbers(v)
		for n := 1; n <= 7; n++ {
			for range 30 {
				set := shuffled(v, next)[:n]
				slices.Sort(set)
				ask(set, v)
			}
		}
	}
	if yes < 1000 || no < 1000 {
		t.Errorf("%d are, %d are not", yes, no)
	}
}

// TestSidonByHand has R3: a number with itself counts, sums go round, and sets of differences that come once each.
func TestSidonByHand(t *testing.T) {
	for _, c := range []struct {
		set  []int
		v    int
		want bool
	}{
		{nil, 1, true},
		{nil, 60, true},
		{[]int{0}, 1, true},
		{[]int{59}, 60, true},
		{[]int{0, 1}, 2, false}, // 0 and 0, 1 and 1
		{[]int{0, 1}, 3, true},
		{[]int{0, 30}, 60, false}, // 0 and 0, 30 and 30
		{[]int{0, 29}, 60, true},
		{[]int{0, 1, 2}, 60, false}, // 0 and 2, 1 and 1
		{[]int{0, 1, 3}, 5, false},  // 0 and 1, 3 and 3
		{[]int{0, 1, 3}, 6, false},  // 0 and 0, 3 and 3
		{[]int{0, 1, 3}, 7, true},
		{[]int{0, 1, 3, 4}, 60, false}, // 0 and 4, 1 and 3
		{[]int{0, 1, 4, 6}, 13, true},
		{[]int{0, 1, 4, 6}, 12, false},
		{[]int{0, 1, 4, 14, 16}, 21, true},
		{[]int{0, 1, 3, 8, 12, 18}, 31, true},
		{[]int{0, 1, 3, 13, 32, 36, 43, 52}, 57, true},
		{[]int{0, 1, 3, 13, 32, 36, 43, 53}, 57, false},
		{upTo(60), 60, false},
	} {
		got, e := ruler.Sidon(c.set, c.v)
		wantBool(t, name("Sidon", c.set, ", ", c.v), got, e, c.want, api.OK)
	}
}
