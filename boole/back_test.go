package boole_test

import (
	"fmt"
	"math"
	"slices"
	"testing"

	"parterre/api"
	"parterre/boole"
)

// TestBack has B3: the spectra of all functions of at most 4 bits, and of great ones.
func TestBack(t *testing.T) {
	for f := range all {
		spectrum := spectrumOf(f)
		got, e := boole.Back(spectrum)
		wantList(t, "Back", spectrum, got, e, f, api.OK)
	}
}

// TestBackOfAllSmall has B3: all lists of few numbers, held against the spectra of all functions.
func TestBackOfAllSmall(t *testing.T) {
	whose := map[string][]int{}
	for n := range 4 {
		for f := range every(n) {
			whose[fmt.Sprint(spectrumOf(f))] = f
		}
	}
	ask := func(list []int) {
		want, there := whose[fmt.Sprint(list)]
		wantError := api.OK
		if !there {
			wantError = api.ErrNone
		}
		for _, x := range list {
			if x < -len(list) || x > len(list) {
				wantError = api.ErrRange
			}
		}
		got, e := boole.Back(list)
		wantList(t, "Back", list, got, e, want, wantError)
	}
	for _, long := range []int{1, 2, 4} {
		for list := range lists(long, -5, -4, -3, -2, -1, 0, 1, 2, 3, 4, 5) {
			ask(list)
		}
	}
	for list := range lists(8, -4, 0, 4) {
		ask(list)
	}
	for list := range lists(8, -6, -2, 2, 6) {
		ask(list)
	}
	for list := range lists(8, -8, 0, 9) {
		ask(list)
	}
}

// TestBackOfNearOnes has B3: spectra with some numbers otherwise, or in other places, and strewn numbers.
func TestBackOfNearOnes(t *testing.T) {
	for start, f := range some() {
		next, spectrum := numbers(start), spectrumOf(f)
		ask := func(list []int) {
			want, wantError := backOf(list)
			got, e := boole.Back(list)
			wantList(t, "Back", list, got, e, want, wantError)
		}
		for range 2 {
			i, j := next(len(f)), next(len(f))
			near := slices.Clone(spectrum)
			near[i], near[j] = near[j], near[i]
			ask(near)
			near[i] = -near[i]
			ask(near)
			near[j] += 2 * (next(3) - 1)
			ask(near)
		}
		for i, x := range spectrum {
			spectrum[i] = -x
		}
		ask(spectrum)
		for i := range spectrum {
			spectrum[i] = next(2*len(f)+1) - len(f)
		}
		ask(spectrum)
	}
}

// TestBackOfWrong has B3's errors; where several apply, the one that is said first.
func TestBackOfWrong(t *testing.T) {
	for _, c := range []wrong{
		{nil, api.ErrShape},
		{[]int{}, api.ErrShape},
		{[]int{2, 0, 0}, api.ErrShape},
		{[]int{2, 9, 0}, api.ErrShape},
		{[]int{math.MinInt, 0, 0, 0, 0}, api.ErrShape},
		{make([]int, 255), api.ErrShape},
		{make([]int, 257), api.ErrShape},
		{make([]int, 512), api.ErrShape},
		{instead(make([]int, 512), 0, 512), api.ErrShape},
		{instead(make([]int, 512), 0, 513), api.ErrShape},
		{make([]int, 1<<16), api.ErrShape},
		{[]int{2}, api.ErrRange},
		{[]int{-2}, api.ErrRange},
		{[]int{0}, api.ErrNone},
		{[]int{3, 0}, api.ErrRange},
		{[]int{0, -3}, api.ErrRange},
		{[]int{2, 2}, api.ErrNone},
		{[]int{1, 1}, api.ErrNone},
		{[]int{2, 2, 2, 2}, api.ErrNone}, // the squares are together as they must be
		{[]int{4, 0, 0, 5}, api.ErrRange},
		{[]int{4, 0, 0, 4}, api.ErrNone},
		{[]int{0, 0, 0, 0}, api.ErrNone},
		{make([]int, 256), api.ErrNone},
		{slices.Repeat([]int{256}, 256), api.ErrNone},
		{slices.Repeat([]int{-256}, 256), api.ErrNone},
		{slices.Repeat([]int{16}, 256), api.ErrNone}, // and here too
		{instead(slices.Repeat([]int{256}, 256), 255, 257), api.ErrRange},
		{instead(slices.Repeat([]int{256}, 256), 0, -257), api.ErrRange},
	} {
		got, e := boole.Back(c.table)
		wantList(t, "Back", c.table, got, e, nil, c.want)
	}
	for n := range 9 {
		spectrum := spectrumOf(strewn(n, n))
		for place := range spectrum {
			for _, x := range []int{1<<n + 1, -1<<n - 1, 1 << 9, -1 << 9, 1 << 62, -1 << 62, 1<<32 + spectrum[place], math.MinInt, math.MinInt + 1, math.MaxInt} {
				list := instead(spectrum, place, x)
				got, e := boole.Back(list)
				wantList(t, "Back", list, got, e, nil, api.ErrRange)
			}
		}
	}
}

// TestBackOfLengths has B3: each length is looked at as that of a table is.
func TestBackOfLengths(t *testing.T) {
	for long := range 1100 {
		for _, first := range []int{long, -long, 0, long + 1} {
			list := make([]int, long)
			if long > 0 {
				list[0] = first
			}
			want, wantError := backOf(list)
			got, e := boole.Back(list)
			wantList(t, "Back", []int{long, first}, got, e, want, wantError)
		}
	}
}
