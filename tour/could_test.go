package tour_test

import (
	"fmt"
	"math"
	"slices"
	"testing"

	"parterre/api"
	"parterre/tour"
)

// TestCouldOfWrong has T3's errors; where several apply, the one that is said first.
func TestCouldOfWrong(t *testing.T) {
	for _, w := range []struct {
		scores []int
		want   api.Errno
	}{
		{[]int{0, 1, 2, 3, 4, 5, 6, 7, 8, 9}, api.ErrFull},
		{make([]int, 10), api.ErrFull},
		{make([]int, 1000), api.ErrFull},
		{slices.Repeat([]int{-1}, 10), api.ErrFull},
		{slices.Repeat([]int{10}, 10), api.ErrFull},
		{nil, api.ErrShape},
		{[]int{}, api.ErrShape},
		{[]int{1}, api.ErrRange},
		{[]int{-1}, api.ErrRange},
		{[]int{2}, api.ErrRange},
		{[]int{0, 2}, api.ErrRange},
		{[]int{2, 0}, api.ErrRange},
		{[]int{2, -1}, api.ErrRange},
		{[]int{-1, 1}, api.ErrRange},
		{[]int{0, 0, 3}, api.ErrRange},
		{[]int{0, 0, -1}, api.ErrRange},
		{[]int{1, 1, 1, 4}, api.ErrRange},
		{[]int{0, 1, 2, 3, 4, 5, 6, 7, 9}, api.ErrRange},
		{[]int{0, 1, 2, 3, 4, 5, 6, 7, -1}, api.ErrRange},
		{[]int{9, 0, 0, 0, 0, 0, 0, 0, 0}, api.ErrRange},
		{[]int{1 << 32}, api.ErrRange},
		{[]int{1<<32 + 1, 0}, api.ErrRange},
		{[]int{math.MaxInt, math.MinInt}, api.ErrRange},
		{[]int{math.MinInt, math.MaxInt, 4}, api.ErrRange},
		{[]int{math.MaxInt, math.MaxInt, 5}, api.ErrRange},
	} {
		got, e := tour.Could(w.scores)
		wantTruth(t, name("Could", w.scores), got, e, false, w.want)
	}
}

// TestCouldOfSizes has T3: each number of scores, up to and beyond its end, and each score.
func TestCouldOfSizes(t *testing.T) {
	for many := range 20 {
		for score := -3; score < 14; score++ {
			scores := slices.Repeat([]int{score}, many)
			want := api.OK
			switch {
			case many > 9:
				want = api.ErrFull
			case many == 0:
				want = api.ErrShape
			case score < 0 || score >= many:
				want = api.ErrRange
			}
			got, e := tour.Could(scores)
			wantTruth(t, name("Could", scores), got, e, want == api.OK && 2*score == many-1, want)
		}
	}
}

// TestCouldOfEachPlace has T3: a number that is none in each place.
func TestCouldOfEachPlace(t *testing.T) {
	for n := 1; n <= 9; n++ {
		for place := range n {
			for _, x := range []int{math.MinInt, -1, n, n + 1, math.MaxInt} {
				scores := scoresOf(rising(n))
				scores[place] = x
				got, e := tour.Could(scores)
				wantTruth(t, name("Could", scores), got, e, false, api.ErrRange)
			}
		}
	}
}

// TestCould has T3, of all rising lists of up to nine numbers, and of these in other orders.
func TestCould(t *testing.T) {
	for n, many := range []int{0, 1, 1, 2, 4, 9, 22, 59, 167, 490} {
		if n == 0 {
			continue
		}
		next := numbers(n)
		could, found := scoreLists(n), 0
		for _, scores := range risingLists(0, n-1, n) {
			_, want := could[fmt.Sprint(scores)]
			got, e := tour.Could(scores)
			wantTruth(t, name("Could", scores), got, e, want, api.OK)
			other := make([]int, n)
			for i, place := range strewnOrder(n, next) {
				other[place] = scores[i]
			}
			got, e = tour.Could(other)
			wantTruth(t, name("Could", other), got, e, want, api.OK)
			if want {
				found++
			}
		}
		if found != many { // so many are known of
			t.Errorf("%d lists of %d scores, want %d", found, n, many)
		}
	}
}

// TestCouldOfEach has T3, of all lists of up to five numbers, by all tournaments there are.
func TestCouldOfEach(t *testing.T) {
	for n := 1; n <= 5; n++ {
		there := map[string]int{}
		for _, s := range every(n) {
			there[fmt.Sprint(scoresOf(s))]++
		}
		all := [][]int{nil}
		for range n {
			var more [][]int
			for _, list := range all {
				for x := range n {
					more = append(more, append(slices.Clone(list), x))
				}
			}
			all = more
		}
		for _, scores := range all {
			got, e := tour.Could(scores)
			wantTruth(t, name("Could", scores), got, e, there[fmt.Sprint(scores)] > 0, api.OK)
		}
	}
}
