package boole_test

import (
	"math"
	"slices"
	"testing"

	"parterre/api"
	"parterre/boole"
)

// wrong is a table, and what is wrong with it.
type wrong struct {
	table []int
	want  api.Errno
}

// wrongOnes have each error of B1; where both apply, the one that is said first.
func wrongOnes() []wrong {
	out := []wrong{
		{nil, api.ErrShape},
		{[]int{}, api.ErrShape},
		{[]int{0, 1, 0}, api.ErrShape},
		{[]int{0, 2, 0}, api.ErrShape},
		{[]int{-1, -1, -1, -1, -1}, api.ErrShape},
		{make([]int, 255), api.ErrShape},
		{make([]int, 257), api.ErrShape},
		{make([]int, 384), api.ErrShape},
		{make([]int, 512), api.ErrShape},
		{instead(make([]int, 512), 3, 7), api.ErrShape},
		{make([]int, 1<<16), api.ErrShape},
		{make([]int, 1<<16+2), api.ErrShape},
		{[]int{2}, api.ErrRange},
		{[]int{-1}, api.ErrRange},
		{[]int{1, -1}, api.ErrRange},
		{[]int{0, 0, 0, 2}, api.ErrRange},
		{[]int{2, 2, 2, -2}, api.ErrRange},
	}
	for _, x := range []int{-1, 2, 3, 255, 256, 257, 1 << 8, 1<<32 + 1, 1 << 62, math.MinInt, math.MinInt + 1, math.MaxInt, math.MaxInt - 1} {
		for n := range 9 {
			for _, place := range []int{0, (1 << n) / 2, 1<<n - 1} {
				out = append(out, wrong{instead(strewn(n, n), place, x), api.ErrRange})
			}
		}
	}
	return out
}

// TestCheckOfWrong has B1's errors.
func TestCheckOfWrong(t *testing.T) {
	for _, w := range wrongOnes() {
		n, e := boole.Check(w.table)
		wantNumber(t, "Check", w.table, n, e, 0, w.want)
		if told := wrongWith(w.table); told != w.want {
			t.Errorf("%v: the words say %d, want %d", w.table, told, w.want)
		}
	}
}

// TestCheckOfLengths has B1: each length, of good and of wrong numbers.
func TestCheckOfLengths(t *testing.T) {
	for long := range 1100 {
		for _, x := range []int{0, 1, 2} {
			list := slices.Repeat([]int{x}, long)
			want, wantError := max(0, widthOf(list)), wrongWith(list)
			if wantError != api.OK {
				want = 0
			}
			n, e := boole.Check(list)
			wantNumber(t, "Check", []int{long, x}, n, e, want, wantError)
		}
	}
	for n, long := range []int{1, 2, 4, 8, 16, 32, 64, 128, 256} {
		got, e := boole.Check(make([]int, long))
		wantNumber(t, "Check", long, got, e, n, api.OK)
	}
}

// TestCheckOfNumbers has B1: all lists of 1, 2 and 4 of some numbers, and one other number in each place of a greater one.
func TestCheckOfNumbers(t *testing.T) {
	for n, long := range []int{1, 2, 4} {
		for list := range lists(long, -2, -1, 0, 1, 2, math.MinInt, math.MaxInt) {
			want, wantError := n, wrongWith(list)
			if wantError != api.OK {
				want = 0
			}
			got, e := boole.Check(list)
			wantNumber(t, "Check", list, got, e, want, wantError)
		}
	}
	for _, f := range great() {
		for place := range f {
			n, e := boole.Check(instead(f, place, 2-3*f[place]))
			wantNumber(t, "Check", []any{f, place}, n, e, 0, api.ErrRange)
		}
	}
}

// TestCheckOfAll has B1: nothing is wrong with a function.
func TestCheckOfAll(t *testing.T) {
	for f := range all {
		n, e := boole.Check(f)
		wantNumber(t, "Check", f, n, e, widthOf(f), api.OK)
	}
}

// TestCheckFirst has B1: all others but Back say this first, and nothing beside it.
func TestCheckFirst(t *testing.T) {
	for _, w := range wrongOnes() {
		list, e := boole.Anf(w.table)
		wantList(t, "Anf", w.table, list, e, nil, w.want)
		n, e := boole.Degree(w.table)
		wantNumber(t, "Degree", w.table, n, e, 0, w.want)
		list, e = boole.Spectrum(w.table)
		wantList(t, "Spectrum", w.table, list, e, nil, w.want)
		n, e = boole.Far(w.table)
		wantNumber(t, "Far", w.table, n, e, 0, w.want)
		bent, e := boole.Bent(w.table)
		wantTruth(t, "Bent", w.table, bent, e, false, w.want)
		n, e = boole.Immune(w.table)
		wantNumber(t, "Immune", w.table, n, e, 0, w.want)
	}
}
