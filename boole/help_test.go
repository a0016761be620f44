package boole_test

import (
	"fmt"
	"slices"
	"testing"

	"parterre/api"
)

// The helpers here go by the words of the document, digit by digit and by trying all, so that a fault of the package is no fault of theirs.

// common counts the bits that are 1 in both.
func common(a, x int) int {
	out := 0
	for a > 0 && x > 0 {
		if a%2 == 1 && x%2 == 1 {
			out++
		}
		a, x = a/2, x/2
	}
	return out
}

// ones counts the bits that are 1.
func ones(x int) int {
	return common(x, x)
}

// table has for each x of n bits what is told of it, modulo 2.
func table(n int, of func(x int) int) []int {
	var out []int
	for x := range 1 << n {
		out = append(out, of(x)%2)
	}
	return out
}

// widthOf looks for the n of B1; -1, if there is none.
func widthOf(list []int) int {
	for n := range 9 {
		if len(list) == 1<<n {
			return n
		}
	}
	return -1
}

// wrongWith goes by the words of B1.
func wrongWith(list []int) api.Errno {
	if widthOf(list) < 0 {
		return api.ErrShape
	}
	for _, x := range list {
		if x != 0 && x != 1 {
			return api.ErrRange
		}
	}
	return api.OK
}

// valueOf is what the sum of these products is at x: a product is 1 if all of its bits are.
func valueOf(sum []int, x int) int {
	out := 0
	for u, in := range sum {
		if in == 1 && common(u, x) == ones(u) {
			out = 1 - out
		}
	}
	return out
}

// sumOf finds the products one by one: those of fewer bits stand ahead of those that have these bits and more, so that at u just the last one is still open.
func sumOf(f []int) []int {
	out := make([]int, len(f))
	for u := range f {
		if valueOf(out, u) != f[u] {
			out[u] = 1
		}
	}
	return out
}

func degreeOf(f []int) int {
	out := 0
	for u, in := range sumOf(f) {
		if in == 1 && ones(u) > out {
			out = ones(u)
		}
	}
	return out
}

// spectrumOf goes by the words of B2.
func spectrumOf(f []int) []int {
	out := make([]int, len(f))
	for a := range f {
		for x := range f {
			if (f[x]+common(a, x))%2 == 1 {
				out[a]--
			} else {
				out[a]++
			}
		}
	}
	return out
}

// farOf counts where the function is unlike each sum of bits, and that and 1.
func farOf(f []int) int {
	out := len(f)
	for a := range f {
		for one := range 2 {
			unlike := 0
			for x := range f {
				if f[x] != (common(a, x)+one)%2 {
					unlike++
				}
			}
			out = min(out, unlike)
		}
	}
	return out
}

// bentOf holds each two numbers against each other.
func bentOf(f []int) bool {
	spectrum := spectrumOf(f)
	for _, a := range spectrum {
		for _, b := range spectrum {
			if a != b && a != -b {
				return false
			}
		}
	}
	return true
}

// immuneOf tries all m.
func immuneOf(f []int) int {
	out, spectrum := 0, spectrumOf(f)
	for m := 0; m <= widthOf(f); m++ {
		fits := true
		for a, x := range spectrum {
			if ones(a) >= 1 && ones(a) <= m && x != 0 {
				fits = false
			}
		}
		if fits {
			out = m
		}
	}
	return out
}

// backOf goes by the words of B3: of each x the signs of a spectrum tell what the function would have to be, so that one table alone is left, whose Spectrum is held against the list.
func backOf(list []int) ([]int, api.Errno) {
	if widthOf(list) < 0 {
		return nil, api.ErrShape
	}
	for _, x := range list {
		if x < -len(list) || x > len(list) {
			return nil, api.ErrRange
		}
	}
	out := make([]int, len(list))
	for x := range out {
		sum := 0
		for a, w := range list {
			if common(a, x)%2 == 1 {
				w = -w
			}
			sum += w
		}
		if sum < 0 {
			out[x] = 1
		}
	}
	if !slices.Equal(spectrumOf(out), list) {
		return nil, api.ErrNone
	}
	return out, api.OK
}

// numbers gives numbers below their bound that are strewn, and the same ones each time.
func numbers(start int) func(bound int) int {
	state := uint64(start)*0x9e3779b97f4a7c15 + 12345
	return func(bound int) int {
		state = state*6364136223846793005 + 1442695040888963407
		return int(state>>33) % bound
	}
}

// strewn is a function of n bits that is 1 at some x.
func strewn(n, start int) []int {
	next := numbers(start)
	return table(n, func(int) int { return next(2) })
}

// every goes through all functions of n bits.
func every(n int) func(func([]int) bool) {
	return func(yield func([]int) bool) {
		for code := range 1 << (1 << n) {
			if !yield(table(n, func(x int) int { return code >> x })) {
				return
			}
		}
	}
}

// lists goes through all lists of so many of these numbers.
func lists(long int, of ...int) func(func([]int) bool) {
	return func(yield func([]int) bool) {
		many := 1
		for range long {
			many *= len(of)
		}
		for code := range many {
			var list []int
			for range long {
				list = append(list, of[code%len(of)])
				code /= len(of)
			}
			if !yield(list) {
				return
			}
		}
	}
}

// instead has another number in one place.
func instead(list []int, place, x int) []int {
	out := slices.Clone(list)
	out[place] = x
	return out
}

// single is 1 at one x alone.
func single(n, x int) []int {
	return instead(make([]int, 1<<n), x, 1)
}

// pairs is bent: bit by bit, the lower half times the upper one, and any function of the lower half.
func pairs(n, start int) []int {
	half := n / 2
	lower := strewn(half, start)
	return table(n, func(x int) int { return common(x%(1<<half), x>>half) + lower[x%(1<<half)] })
}

// known are functions of which much is known: sums of bits, one product, one x, how many bits, bent ones, those that leave some bits out.
func known(n int) [][]int {
	out := [][]int{
		table(n, func(int) int { return 0 }),
		table(n, func(int) int { return 1 }),
		table(n, ones),
		table(n, func(x int) int { return ones(x) + 1 }),
		table(n, func(x int) int { return ones(x) / 2 }),
		single(n, 1<<n-1),
	}
	for k := range n {
		out = append(out,
			table(n, func(x int) int { return x >> k }),
			table(n, func(x int) int { return 1 + x>>k }),
			table(n, func(x int) int { return ones(x % (1 << k)) }),
			table(n, func(x int) int { return 1 + ones(x>>k) }),
			table(n, func(x int) int { return min(1, ones(x)/(k+1)) }),
			single(n, 1<<k),
		)
	}
	if n%2 == 0 {
		for start := range 4 {
			out = append(out, pairs(n, start))
		}
	}
	return out
}

// great are functions of 5 to 8 bits.
func great() [][]int {
	var out [][]int
	for n := 5; n <= 8; n++ {
		out = append(out, known(n)...)
		for start := range 40 {
			out = append(out, strewn(n, start))
		}
		for start := range 10 { // with a sum of bits, which moves the spectrum
			a, f := numbers(start)(1<<n), strewn(n, start+100)
			out = append(out, table(n, func(x int) int { return f[x]*f[x^1] + common(a, x) }))
		}
	}
	return out
}

// some are functions of each number of bits.
func some() [][]int {
	out := great()
	for n := range 5 {
		out = append(out, known(n)...)
		for start := range 5 {
			out = append(out, strewn(n, start))
		}
	}
	return out
}

// all goes through the functions of at most 4 bits and the great ones.
func all(yield func([]int) bool) {
	for n := range 5 {
		for f := range every(n) {
			if !yield(f) {
				return
			}
		}
	}
	for _, f := range great() {
		if !yield(f) {
			return
		}
	}
}

func name(call string, told ...any) string {
	return call + " of " + fmt.Sprint(told...)
}

func wantNumber(t *testing.T, call string, told any, got int, e api.Errno, want int, wantError api.Errno) {
	t.Helper()
	if got != want || e != wantError {
		t.Errorf("%s: got %d, error %d; want %d, error %d", name(call, told), got, e, want, wantError)
	}
}

func wantTruth(t *testing.T, call string, told any, got bool, e api.Errno, want bool, wantError api.Errno) {
	t.Helper()
	if got != want || e != wantError {
		t.Errorf("%s: got %t, error %d; want %t, error %d", name(call, told), got, e, want, wantError)
	}
}

// wantList has nothing beside an error.
func wantList(t *testing.T, call string, told any, got []int, e api.Errno, want []int, wantError api.Errno) {
	t.Helper()
	if !slices.Equal(got, want) || e != wantError {
		t.Errorf("%s: got %v, error %d; want %v, error %d", name(call, told), got, e, want, wantError)
	}
}
