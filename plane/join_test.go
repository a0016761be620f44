package plane_test

import (
	"math"
	"slices"
	"testing"

	"parterre/api"
	"parterre/plane"
)

// wantTwo is what is wrong with two numbers below n.
func wantTwo(n, a, b int) api.Errno {
	switch {
	case a < 0 || b < 0 || a >= n || b >= n:
		return api.ErrRange
	case a == b:
		return api.ErrTwice
	}
	return api.OK
}

// TestJoin has P3's first: all pairs, and what lies beside them.
func TestJoin(t *testing.T) {
	for _, k := range planes() {
		for p := -1; p <= k.Points; p++ {
			for q := -1; q <= k.Points; q++ {
				want, wantError := 0, wantTwo(k.Points, p, q)
				if wantError == api.OK {
					want = holding(k.Design, p, q)[0]
				}
				got, e := plane.Join(k.Design, p, q)
				wantNumber(t, name("Join", k.Design, p, " ", q), got, e, want, wantError)
			}
		}
	}
}

// TestMeet has P3's second: all pairs, and what lies beside them.
func TestMeet(t *testing.T) {
	for _, k := range planes() {
		for b := -1; b <= len(k.Blocks); b++ {
			for c := -1; c <= len(k.Blocks); c++ {
				want, wantError := 0, wantTwo(len(k.Blocks), b, c)
				if wantError == api.OK {
					want = shared(k.Design, b, c)[0]
				}
				got, e := plane.Meet(k.Design, b, c)
				wantNumber(t, name("Meet", k.Design, b, " ", c), got, e, want, wantError)
			}
		}
	}
}

// TestTwoThatAreNone has P3: a number that is none is told ahead of one that stands there twice.
func TestTwoThatAreNone(t *testing.T) {
	for q := 2; q <= 5; q++ {
		d := made(q)
		for _, two := range [][]int{{-1, -1}, {d.Points, d.Points}, {0, math.MinInt}, {math.MaxInt, 0}, {math.MinInt, math.MinInt}, {1 << 32, 1}, {1, 1<<32 + 2}, {40, 40}, {199, 0}} {
			n, e := plane.Join(d, two[0], two[1])
			wantNumber(t, name("Join", d, two), n, e, 0, api.ErrRange)
			n, e = plane.Meet(d, two[0], two[1])
			wantNumber(t, name("Meet", d, two), n, e, 0, api.ErrRange)
		}
	}
}

// TestArc has P3's third: all sets of points of the least planes, and of the others all of up to four and some of more.
func TestArc(t *testing.T) {
	var sets [][]int
	for bits := range 1 << 7 {
		sets = append(sets, listOf(7, func(p int) bool { return bits>>p&1 == 1 }))
	}
	for _, k := range planes() {
		lists := sets
		if k.order > 2 {
			lists = slices.Concat(sets, strewnSets(k))
		}
		for _, list := range lists {
			got, e := plane.Arc(k.Design, list)
			wantBool(t, name("Arc", k.Design, list), got, e, isArc(k.Design, list), api.OK)
		}
	}
}

// strewnSets has few points and many, and arcs that are grown as far as they go, with a point more or less.
func strewnSets(k known) [][]int {
	var out [][]int
	for start := range 20 {
		next := numbers(start)
		out = append(out, listOf(k.Points, func(int) bool { return next(k.order+1) == 0 }))
		var arc []int
		for _, p := range strewnOrder(k.Points, next) {
			if isArc(k.Design, append(slices.Clone(arc), p)) {
				arc = append(arc, p)
			}
		}
		slices.Sort(arc)
		more := append(slices.Clone(arc), listOf(k.Points, func(p int) bool { return !slices.Contains(arc, p) })[next(k.Points-len(arc))])
		slices.Sort(more)
		out = append(out, arc, arc[1:], more)
	}
	return append(out, upTo(k.Points), k.Blocks[0], k.Blocks[len(k.Blocks)-1])
}

// TestArcByHand has P3's third: up to two points are one, in a block or not; three of the last block alone are none.
func TestArcByHand(t *testing.T) {
	d := made(3)
	for _, c := range []struct {
		points []int
		want   bool
	}{
		{nil, true},
		{[]int{0}, true},
		{[]int{12}, true},
		{[]int{0, 12}, true},
		{[]int{1, 4}, true},
		{[]int{1, 4, 7}, false},
		{[]int{4, 7, 10}, false},
		{[]int{1, 7, 10}, false},
		{[]int{2, 6, 11}, false},
		{[]int{0, 1, 4}, true},
		{[]int{0, 1, 4, 12}, true},
		{[]int{0, 1, 4, 7}, false},
		{[]int{0, 4, 8, 11}, true},
		{[]int{0, 4, 8, 11, 12}, false},
		{upTo(13), false},
	} {
		got, e := plane.Arc(d, c.points)
		wantBool(t, name("Arc", c.points), got, e, c.want, api.OK)
	}
}

// TestArcOfWrongOnes has P3's errors of Arc: all points are looked at ahead of their order.
func TestArcOfWrongOnes(t *testing.T) {
	for _, k := range planes() {
		n := k.Points
		for _, c := range []struct {
			points []int
			want   api.Errno
		}{
			{[]int{-1}, api.ErrRange},
			{[]int{n}, api.ErrRange},
			{[]int{0, n}, api.ErrRange},
			{[]int{1, 0, n}, api.ErrRange},
			{[]int{1, 1, -1}, api.ErrRange},
			{[]int{0, 1, math.MaxInt}, api.ErrRange},
			{[]int{math.MinInt, 0, 1}, api.ErrRange},
			{upTo(n + 1), api.ErrRange},
			{append(slices.Repeat([]int{0}, 1000), n), api.ErrRange},
			{[]int{1, 0}, api.ErrShape},
			{[]int{0, 0}, api.ErrShape},
			{[]int{n - 1, n - 1}, api.ErrShape},
			{[]int{0, 2, 1}, api.ErrShape},
			{[]int{0, 1, 1}, api.ErrShape},
			{append(upTo(n), 0), api.ErrShape},
			{append(upTo(n), n-1), api.ErrShape},
			{slices.Repeat([]int{0}, 1000), api.ErrShape},
		} {
			got, e := plane.Arc(k.Design, c.points)
			wantBool(t, name("Arc", k.Design, c.points), got, e, false, c.want)
		}
	}
}

// TestArcOfAllShort has P3's errors of Arc: all lists of up to 3 numbers, from -1 to 7.
func TestArcOfAllShort(t *testing.T) {
	d := made(2)
	lists := [][]int{{}}
	for i := 0; i < len(lists); i++ {
		list := lists[i]
		want, wantError := false, api.OK
		if slices.Contains(list, -1) || slices.Contains(list, 7) {
			wantError = api.ErrRange
		} else if !slices.IsSorted(list) || len(slices.Compact(slices.Clone(list))) < len(list) {
			wantError = api.ErrShape
		} else {
			want = isArc(d, list)
		}
		got, e := plane.Arc(d, list)
		wantBool(t, name("Arc", list), got, e, want, wantError)
		for x := -1; x <= 7 && len(list) < 3; x++ {
			lists = append(lists, append(slices.Clone(list), x))
		}
	}
}
