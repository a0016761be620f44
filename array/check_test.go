package array_test

import (
	"math"
	"slices"
	"testing"

	"parterre/api"
	"parterre/array"
)

// wrong is how many levels there are, runs, and what is wrong with them.
type wrong struct {
	s    int
	runs [][]int
	want api.Errno
}

// wrongOnes have each error of A1; where several apply, the one that is said first.
func wrongOnes() []wrong {
	good := texts("000", "011", "101", "110")
	full := even(8)
	return []wrong{
		{1, good, api.ErrRange},
		{0, good, api.ErrRange},
		{-1, good, api.ErrRange},
		{-2, good, api.ErrRange},
		{65, good, api.ErrRange},
		{128, good, api.ErrRange},
		{1 << 32, good, api.ErrRange},
		{1<<32 + 2, good, api.ErrRange},
		{math.MinInt, good, api.ErrRange},
		{math.MaxInt, good, api.ErrRange},
		{1, nil, api.ErrRange},
		{65, nil, api.ErrRange},
		{1, make([][]int, 129), api.ErrRange},
		{65, [][]int{{}}, api.ErrRange},
		{2, nil, api.ErrShape},
		{64, [][]int{}, api.ErrShape},
		{2, slices.Concat(full, full[:1]), api.ErrFull},
		{2, slices.Concat(full, [][]int{{0}}), api.ErrFull},
		{2, slices.Concat(full, [][]int{{0, 0, 0, 0, 0, 0, 0, 2}}), api.ErrFull},
		{2, slices.Concat([][]int{nil}, full), api.ErrFull},
		{2, slices.Concat([][]int{{9}}, full), api.ErrFull},
		{2, make([][]int, 129), api.ErrFull},
		{2, make([][]int, 1000), api.ErrFull},
		{2, make([][]int, 128), api.ErrShape},
		{2, [][]int{nil}, api.ErrShape},
		{2, [][]int{{}}, api.ErrShape},
		{2, [][]int{{}, {}}, api.ErrShape},
		{2, [][]int{{}, {7}}, api.ErrShape},
		{2, [][]int{{}, {0}}, api.ErrShape},
		{2, [][]int{make([]int, 9)}, api.ErrShape},
		{2, [][]int{make([]int, 9), make([]int, 8)}, api.ErrShape},
		{2, [][]int{make([]int, 9), make([]int, 9)}, api.ErrShape},
		{2, [][]int{make([]int, 1000)}, api.ErrShape},
		{2, [][]int{slices.Repeat([]int{7}, 9)}, api.ErrShape},
		{2, [][]int{slices.Repeat([]int{-1}, 9), {7}}, api.ErrShape},
		{2, texts("000", "01"), api.ErrShape},
		{2, texts("000", "0111"), api.ErrShape},
		{2, texts("000", "011", ""), api.ErrShape},
		{2, texts("000", "011", "0119"), api.ErrShape},
		{2, texts("000", "011", "09"), api.ErrShape},
		{2, texts("000", "01", "009"), api.ErrShape},
		{2, texts("000", "0101", "900"), api.ErrShape},
		{2, slices.Concat(full[:127], [][]int{make([]int, 7)}), api.ErrShape},
		{2, slices.Concat(full[:127], [][]int{make([]int, 9)}), api.ErrShape},
		{2, texts("2"), api.ErrRange},
		{2, [][]int{{-1}}, api.ErrRange},
		{9, texts("9"), api.ErrRange},
		{2, texts("002"), api.ErrRange},
		{2, texts("200"), api.ErrRange},
		{2, texts("000", "011", "121", "110"), api.ErrRange},
		{2, texts("020", "01"), api.ErrRange},
		{2, texts("002", ""), api.ErrRange},
		{2, texts("000", "009", "01"), api.ErrRange},
		{2, texts("000", "900", "0101"), api.ErrRange},
		{2, instead(full, 127, 7, 2), api.ErrRange},
		{2, instead(full, 127, 7, -1), api.ErrRange},
		{2, instead(full, 0, 0, 2), api.ErrRange},
		{64, instead(full, 127, 7, 64), api.ErrRange},
		{2, instead(full, 0, 7, 256), api.ErrRange},
		{2, instead(full, 0, 7, 1<<32), api.ErrRange},
		{2, instead(full, 0, 7, 1<<32+1), api.ErrRange},
		{2, instead(full, 0, 7, math.MinInt), api.ErrRange},
		{2, instead(full, 0, 7, math.MaxInt), api.ErrRange},
	}
}

// TestCheckOfWrong has A1's errors.
func TestCheckOfWrong(t *testing.T) {
	for _, w := range wrongOnes() {
		wantError(t, name("Check", w.s, w.runs), array.Check(w.s, w.runs), w.want)
		wantError(t, name("what the words say", w.s, w.runs), wrongWith(w.s, w.runs), w.want)
	}
}

// TestCheckFirst has A1: Strength, Drop and Take say this first, whatever else is wrong, and nothing beside it.
func TestCheckFirst(t *testing.T) {
	for _, w := range wrongOnes() {
		strength, e := array.Strength(w.s, w.runs)
		wantNumber(t, name("Strength", w.s, w.runs), strength, e, 0, w.want)
		for _, column := range []int{-1, 0, 1, 2, 8, 9, math.MinInt, math.MaxInt} {
			dropped, e := array.Drop(w.s, w.runs, column)
			wantRows(t, name("Drop", w.s, w.runs, column), dropped, e, nil, w.want)
			for _, level := range []int{-1, 0, 1, w.s - 1, w.s, math.MinInt, math.MaxInt} {
				taken, e := array.Take(w.s, w.runs, column, level)
				wantRows(t, name("Take", w.s, w.runs, column, level), taken, e, nil, w.want)
			}
		}
	}
}

// TestCheckOfSizes has A1: each number of levels, of runs and of columns, up to and beyond its end.
func TestCheckOfSizes(t *testing.T) {
	for s := -2; s <= 67; s++ {
		for many := range 132 {
			for width := range 11 {
				runs := make([][]int, many)
				for i := range runs {
					runs[i] = make([]int, width)
				}
				wantError(t, name("Check", s, many, width), array.Check(s, runs), wrongWith(s, runs))
			}
		}
	}
	good := 0
	for s := 2; s <= 64; s++ {
		for width := 1; width <= 8; width++ {
			if array.Check(s, lists(s, 1)) == api.OK && array.Check(s, [][]int{slices.Repeat([]int{s - 1}, width)}) == api.OK {
				good++
			}
		}
	}
	if good != 63*8 {
		t.Errorf("%d sizes are good, want %d", good, 63*8)
	}
}

// TestCheckOfEachNumber has A1: each number about the bounds, in each place, for each s.
func TestCheckOfEachNumber(t *testing.T) {
	for s := 2; s <= 64; s++ {
		next := numbers(s)
		for width := 1; width <= 8; width++ {
			runs := strewn(s, 5, width, next)
			wantError(t, name("Check", s, runs), array.Check(s, runs), api.OK)
			for i := range runs {
				for column := range width {
					for _, x := range []int{-2, -1, 0, 1, s - 1, s, s + 1, 64} {
						other := instead(runs, i, column, x)
						wantError(t, name("Check", s, other), array.Check(s, other), wrongWith(s, other))
					}
				}
			}
		}
	}
}

// TestCheckOfEachLength has A1: all lengths of up to three runs, right and wrong numbers in them.
func TestCheckOfEachLength(t *testing.T) {
	for a := range 11 {
		for b := range 11 {
			for c := range 11 {
				for _, x := range lists(2, 3) {
					runs := [][]int{slices.Repeat([]int{2 * x[0]}, a), slices.Repeat([]int{2 * x[1]}, b), slices.Repeat([]int{2 * x[2]}, c)}
					wantError(t, name("Check", runs), array.Check(2, runs), wrongWith(2, runs))
				}
			}
		}
	}
}

// TestCheckOfSome has A1: nothing is wrong with these.
func TestCheckOfSome(t *testing.T) {
	for _, k := range some() {
		wantError(t, name("Check", k.name), array.Check(k.s, k.runs), api.OK)
	}
}
