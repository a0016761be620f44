package word_test

import (
	"math"
	"slices"
	"testing"

	"parterre/api"
	"parterre/word"
)

// TestPrimesAreCounted has W3: all Lyndon words of few numbers, one by one.
func TestPrimesAreCounted(t *testing.T) {
	for k, most := range map[int]int{1: 60, 2: 14, 3: 8, 4: 7, 5: 5, 6: 5, 10: 4, 30: 2} {
		for n := 1; n <= most; n++ {
			want := 0
			for _, list := range every(k, n) {
				if isLyndon(list) {
					want++
				}
			}
			got, e := word.Primes(k, n)
			wantNumber(t, name("Primes", k, n), got, e, want, api.OK)
		}
	}
}

// roots has for each n the greatest k whose power may be, found by halving.
func roots() map[int]int {
	out := map[int]int{}
	for n := 1; n <= 60; n++ {
		low, high := 1, math.MaxInt
		for high-low > 1 {
			middle := low + (high-low)/2
			if isMore(middle, n, 1e18) {
				high = middle
			} else {
				low = middle
			}
		}
		out[n] = low
	}
	return out
}

// TestPrimes has W3: each n, with few numbers and with as many as may be; and one more is too much.
func TestPrimes(t *testing.T) {
	for n, most := range roots() {
		for k := range 200 {
			for _, k := range []int{k + 1, most - k} {
				if k < 1 {
					continue
				}
				want, wantError := 0, api.ErrFull
				if k <= most {
					want, wantError = primesOf(k, n), api.OK
				}
				got, e := word.Primes(k, n)
				wantNumber(t, name("Primes", k, n), got, e, want, wantError)
			}
		}
		for _, k := range []int{most + 1, most + 2, 2*most + 1, math.MaxInt - 1, math.MaxInt} {
			got, e := word.Primes(k, n)
			wantNumber(t, name("Primes", k, n), got, e, 0, api.ErrFull)
		}
	}
}

// TestPrimesAtTheBounds has W3: what k and n may be.
func TestPrimesAtTheBounds(t *testing.T) {
	for _, some := range []struct {
		k, n, want int
		e          api.Errno
	}{
		{1e18, 1, 1e18, api.OK},
		{1e18 + 1, 1, 0, api.ErrFull},
		{1e9, 2, 499999999500000000, api.OK},
		{1e9 + 1, 2, 0, api.ErrFull},
		{1e6, 3, 333333333333000000, api.OK},
		{1e6 + 1, 3, 0, api.ErrFull},
		{10, 18, 55555555499944500, api.OK},
		{10, 19, 0, api.ErrFull},
		{2, 59, 9770521225481754, api.OK},
		{2, 60, 0, api.ErrFull},
		{3, 37, 12169835294351280, api.OK},
		{3, 38, 0, api.ErrFull},
		{1 << 32, 2, 0, api.ErrFull},
		{1 << 16, 4, 0, api.ErrFull},
		{1 << 8, 8, 0, api.ErrFull},
		{4, 32, 0, api.ErrFull},
		{1, 1, 1, api.OK},
		{1, 2, 0, api.OK},
		{1, 60, 0, api.OK},
		{1, 61, 0, api.ErrRange},
		{1, 0, 0, api.ErrRange},
		{1, -1, 0, api.ErrRange},
		{0, 1, 0, api.ErrRange},
		{0, 60, 0, api.ErrRange},
		{-1, 2, 0, api.ErrRange},
		{-2, 2, 0, api.ErrRange},
		{2, 61, 0, api.ErrRange},
		{2, 64, 0, api.ErrRange},
		{math.MaxInt, 61, 0, api.ErrRange},
		{math.MaxInt, 0, 0, api.ErrRange},
		{math.MinInt, 1, 0, api.ErrRange},
		{2, math.MaxInt, 0, api.ErrRange},
		{2, math.MinInt, 0, api.ErrRange},
	} {
		got, e := word.Primes(some.k, some.n)
		wantNumber(t, name("Primes", some.k, some.n), got, e, some.want, some.e)
	}
}

// TestPrimesOfDivisors has W5: the Primes of each divisor, times it, are all lists.
func TestPrimesOfDivisors(t *testing.T) {
	for n, most := range roots() {
		for _, k := range []int{1, 2, 3, 7, 10, most/2 + 1, most} {
			if k > most {
				continue
			}
			sum := 0
			for d := 1; d <= n; d++ {
				if n%d == 0 {
					got, _ := word.Primes(k, d)
					sum += d * got
				}
			}
			if sum != power(k, n) {
				t.Errorf("the Primes of %d and the divisors of %d are %d in all, want %d", k, n, sum, power(k, n))
			}
		}
	}
}

// TestNext has W3: behind each Lyndon word of few numbers comes the next in order of those that are no longer.
func TestNext(t *testing.T) {
	for k, most := range map[int]int{1: 6, 2: 11, 3: 7, 4: 5, 5: 4, 9: 3, 10: 3} {
		for n := 1; n <= most; n++ {
			all := lyndons(k, n)
			for at, list := range all {
				if len(list) != n {
					continue
				}
				got, e := word.Next(k, list)
				if at == len(all)-1 {
					wantList(t, name("Next", k, list), got, e, nil, api.ErrNone)
				} else {
					wantList(t, name("Next", k, list), got, e, all[at+1], api.OK)
				}
			}
		}
	}
}

// TestNextOfEachWord has W3: all words of few numbers, with each k: which of the errors are told, and in what order.
func TestNextOfEachWord(t *testing.T) {
	for n := range 6 {
		for _, list := range every(4, n) {
			for k := -2; k <= 12; k++ {
				want := wrongNext(k, list)
				got, e := word.Next(k, list)
				if want == api.OK {
					if e != api.OK && (e != api.ErrNone || !slices.Equal(list, []int{k - 1})) {
						t.Errorf("%s: got error %d", name("Next", k, list), e)
					}
					continue
				}
				wantList(t, name("Next", k, list), got, e, nil, want)
			}
		}
	}
}

// TestNextOfLong has W3: what is told is a Lyndon word, no longer, and behind the one that was asked; and of those that are made by raising a number and leaving out all behind it, none is between.
func TestNextOfLong(t *testing.T) {
	for _, list := range long() {
		for _, k := range []int{1, 2, 3, 4, 9, 10} {
			want := wrongNext(k, list)
			got, e := word.Next(k, list)
			if want != api.OK {
				wantList(t, name("Next", k, list), got, e, nil, want)
				continue
			}
			if e != api.OK || !isLyndon(got) || len(got) > len(list) || !isAhead(list, got) || wrongNext(k, got) != api.OK {
				t.Errorf("%s: got %s, error %d", name("Next", k, list), name("", got), e)
			}
			for at, x := range list {
				if x < k-1 {
					other := append(slices.Clone(list[:at]), x+1)
					if isAhead(other, got) && isLyndon(other) {
						t.Errorf("%s: got %s; %s is ahead", name("Next", k, list), name("", got), name("", other))
					}
				}
			}
		}
	}
}

// TestNextOfSome has W3: long words whose Next one sees.
func TestNextOfSome(t *testing.T) {
	for _, n := range []int{2, 3, 64, 4095, 4096} {
		zeros := make([]int, n-1)
		got, e := word.Next(2, append(slices.Clone(zeros), 1))
		wantList(t, name("Next of 0 .. 0 1, so many numbers being", n), got, e, append(slices.Clone(zeros[1:]), 1), api.OK)
		got, e = word.Next(3, append(slices.Clone(zeros), 1))
		wantList(t, name("Next, below 3, of 0 .. 0 1, so many numbers being", n), got, e, append(slices.Clone(zeros), 2), api.OK)
		ones := slices.Repeat([]int{1}, n-1)
		got, e = word.Next(2, append([]int{0}, ones...))
		wantList(t, name("Next of 0 1 .. 1, so many numbers being", n), got, e, []int{1}, api.OK)
	}
	for k := 1; k <= 10; k++ {
		for x := range k - 1 {
			got, e := word.Next(k, []int{x})
			wantList(t, name("Next", k, x), got, e, []int{x + 1}, api.OK)
		}
		got, e := word.Next(k, []int{k - 1})
		wantList(t, name("Next", k, k-1), got, e, nil, api.ErrNone)
	}
}

// TestNextOfWrong has W3: the errors, each where a later one would apply as well.
func TestNextOfWrong(t *testing.T) {
	over := make([]int, 4097)
	for _, some := range []struct {
		k    int
		list []int
		want api.Errno
	}{
		{0, []int{0}, api.ErrRange},
		{11, []int{0, 1}, api.ErrRange},
		{-1, nil, api.ErrRange},
		{0, over, api.ErrRange},
		{11, over, api.ErrRange},
		{math.MinInt, over, api.ErrRange},
		{math.MaxInt, over, api.ErrRange},
		{1<<32 + 2, []int{0, 1}, api.ErrRange},
		{0, []int{1, 0}, api.ErrRange},
		{11, []int{10}, api.ErrRange},
		{2, over, api.ErrFull},
		{2, slices.Repeat([]int{12}, 4097), api.ErrFull},
		{2, append([]int{0}, slices.Repeat([]int{2}, 4096)...), api.ErrFull},
		{10, []int{10}, api.ErrRange},
		{10, []int{0, 10}, api.ErrRange},
		{10, []int{1, -1}, api.ErrRange},
		{2, []int{0, 2}, api.ErrRange},
		{2, []int{2, 0}, api.ErrRange},
		{2, []int{2}, api.ErrRange},
		{1, []int{1}, api.ErrRange},
		{3, []int{1, 0, 3}, api.ErrRange},
		{1, nil, api.ErrShape},
		{10, []int{}, api.ErrShape},
		{2, []int{1, 0}, api.ErrShape},
		{2, []int{0, 0}, api.ErrShape},
		{1, []int{0, 0}, api.ErrShape},
		{2, []int{1, 1}, api.ErrShape},
		{2, []int{0, 1, 0, 1}, api.ErrShape},
		{2, make([]int, 4096), api.ErrShape},
		{1, []int{0}, api.ErrNone},
		{2, []int{1}, api.ErrNone},
		{10, []int{9}, api.ErrNone},
	} {
		got, e := word.Next(some.k, some.list)
		wantList(t, name("Next", some.k, some.list), got, e, nil, some.want)
	}
}
