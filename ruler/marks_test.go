package ruler_test

import (
	"math"
	"slices"
	"testing"

	"parterre/api"
	"parterre/ruler"
)

// TestCheckOfWrongOnes has R1's errors; where several apply, the one that is said first.
func TestCheckOfWrongOnes(t *testing.T) {
	for _, c := range []struct {
		marks []int
		want  api.Errno
	}{
		{upTo(61), api.ErrFull},
		{append(upTo(60), -1), api.ErrFull},
		{append(upTo(60), 1_000_000_001), api.ErrFull},
		{append(upTo(60), 0), api.ErrFull},
		{slices.Repeat([]int{math.MinInt}, 61), api.ErrFull},
		{slices.Repeat([]int{7}, 5000), api.ErrFull},
		{[]int{-1}, api.ErrRange},
		{[]int{1_000_000_001}, api.ErrRange},
		{[]int{0, -1}, api.ErrRange},
		{[]int{-1, 0, 1}, api.ErrRange},
		{[]int{0, 1_000_000_001}, api.ErrRange},
		{[]int{0, 1 << 32}, api.ErrRange},
		{[]int{0, math.MaxInt}, api.ErrRange},
		{[]int{0, math.MinInt}, api.ErrRange},
		{[]int{math.MinInt, math.MaxInt}, api.ErrRange},
		{[]int{1, 1, -1}, api.ErrRange},
		{[]int{3, 2, 1_000_000_001}, api.ErrRange},
		{append(slices.Repeat([]int{3}, 59), -3), api.ErrRange},
		{[]int{1}, api.ErrShape},
		{[]int{1_000_000_000}, api.ErrShape},
		{[]int{1, 2, 5, 7}, api.ErrShape},
		{[]int{1, 0}, api.ErrShape},
		{[]int{0, 0}, api.ErrShape},
		{[]int{0, 1, 1}, api.ErrShape},
		{[]int{0, 1, 6, 4}, api.ErrShape},
		{[]int{0, 4, 1, 6}, api.ErrShape},
		{[]int{0, 1_000_000_000, 999_999_999}, api.ErrShape},
		{slices.Repeat([]int{0}, 60), api.ErrShape},
	} {
		got, e := ruler.Check(c.marks)
		wantBool(t, name("Check", c.marks), got, e, false, c.want)
	}
}

// TestCheckOfAllShort has R1: all lists of up to 4 numbers, from -1 to 5.
func TestCheckOfAllShort(t *testing.T) {
	lists := [][]int{{}}
	for i := 0; i < len(lists); i++ {
		list := lists[i]
		want := api.OK
		if slices.Contains(list, -1) {
			want = api.ErrRange
		} else if !slices.IsSorted(list) || len(slices.Compact(slices.Clone(list))) < len(list) || len(list) > 0 && list[0] != 0 {
			want = api.ErrShape
		}
		got, e := ruler.Check(list)
		wantBool(t, name("Check", list), got, e, want == api.OK && golomb(list), want)
		for x := -1; x <= 5 && len(list) < 4; x++ {
			lists = append(lists, append(slices.Clone(list), x))
		}
	}
}

// TestCheckOfAllSets has R1: all marks up to 13.
func TestCheckOfAllSets(t *testing.T) {
	for _, rest := range allSets(13) {
		marks := []int{0}
		for _, x := range rest {
			marks = append(marks, x+1)
		}
		got, e := ruler.Check(marks)
		wantBool(t, name("Check", marks), got, e, golomb(marks), api.OK)
	}
}

// TestCheckByHand has R1: rulers that books tell, what they are no more with a mark moved, and the ends.
func TestCheckByHand(t *testing.T) {
	for _, c := range []struct {
		marks []int
		want  bool
	}{
		{nil, true},
		{[]int{0}, true},
		{[]int{0, 1_000_000_000}, true},
		{[]int{0, 1, 1_000_000_000}, true},
		{[]int{0, 500_000_000, 1_000_000_000}, false},
		{[]int{0, 1, 999_999_999, 1_000_000_000}, false},
		{[]int{0, 2, 999_999_999, 1_000_000_000}, true},
		{[]int{0, 1, 3}, true},
		{[]int{0, 1, 4, 9, 15, 22, 32, 34}, true},
		{[]int{0, 1, 4, 9, 15, 22, 33, 34}, false},
		{[]int{0, 1, 5, 12, 25, 27, 35, 41, 44}, true},
		{[]int{0, 1, 6, 10, 23, 26, 34, 41, 53, 55}, true},
		{[]int{0, 1, 6, 10, 23, 26, 34, 41, 53, 56}, false},
		{powersLessOne(30), true},
		{upTo(60), false},
		{erdosTuran(61, 60), true},
		{erdosTuran(59, 60), true},
		{erdosTuran(60, 60), false},
	} {
		got, e := ruler.Check(c.marks)
		wantBool(t, name("Check", c.marks), got, e, c.want, api.OK)
	}
}

// TestCheckOfOneMarkMoved has R1: rulers of many marks, the most there may be among them, with each mark moved.
func TestCheckOfOneMarkMoved(t *testing.T) {
	yes, no := 0, 0
	for _, n := range []int{10, 20, 60} {
		for i := 1; i < n; i++ {
			for by := -2; by <= 2; by++ {
				marks := erdosTuran(61, n)
				marks[i] += by
				want := golomb(marks)
				if want {
					yes++
				} else {
					no++
				}
				got, e := ruler.Check(marks)
				wantBool(t, name("Check", marks), got, e, want, api.OK)
			}
		}
	}
	if yes < 100 || no < 100 {
		t.Errorf("%d are, %d are not", yes, no)
	}
}

// TestBest has R1's last: all that may be asked, and what lies beside it.
func TestBest(t *testing.T) {
	if api.MaxMarks != 7 {
		t.Errorf("MaxMarks is %d", api.MaxMarks)
	}
	for n := -3; n <= 20; n++ {
		got, e := ruler.Best(n)
		if n < 1 || n > 7 {
			wantList(t, name("Best", n), got, e, nil, api.ErrRange)
			continue
		}
		wantList(t, name("Best", n), got, e, best(n), api.OK)
	}
	for _, n := range []int{math.MinInt, math.MaxInt, 1<<32 + 4, -1 << 32} {
		got, e := ruler.Best(n)
		wantList(t, name("Best", n), got, e, nil, api.ErrRange)
	}
}

// TestBestByHand has R1's last: what books tell.
func TestBestByHand(t *testing.T) {
	for _, want := range [][]int{{0}, {0, 1}, {0, 1, 3}, {0, 1, 4, 6}, {0, 1, 4, 9, 11}, {0, 1, 4, 10, 12, 17}, {0, 1, 4, 10, 18, 23, 25}} {
		got, e := ruler.Best(len(want))
		wantList(t, name("Best", len(want)), got, e, want, api.OK)
	}
}
