package differ_test

import (
	"fmt"
	"slices"
	"testing"

	"parterre/api"
)

// The helpers here go by the words of the document, by lists and by trying all, so that a fault of the package is no fault of theirs.

// ring is a set of numbers modulo v.
type ring struct {
	v   int
	set []int
}

// name is for what is told of a call.
func name(call string, r ring) string {
	return fmt.Sprintf("%s of %d, %v", call, r.v, r.set)
}

// listOf gives the numbers below n of which it holds.
func listOf(n int, holds func(x int) bool) []int {
	var out []int
	for x := range n {
		if holds(x) {
			out = append(out, x)
		}
	}
	return out
}

// whole has all numbers.
func whole(v int) ring {
	return ring{v, listOf(v, func(int) bool { return true })}
}

// rest has what is left out of a set.
func rest(r ring) ring {
	return ring{r.v, listOf(r.v, func(x int) bool { return !slices.Contains(r.set, x) })}
}

// turned has a set times t, with s added, rising.
func turned(r ring, t, s int) ring {
	var out []int
	for _, x := range r.set {
		out = append(out, (x*t+s)%r.v)
	}
	slices.Sort(out)
	return ring{r.v, out}
}

// allSets gives each set of numbers modulo v.
func allSets(v int) []ring {
	var out []ring
	for bits := range 1 << v {
		out = append(out, ring{v, listOf(v, func(x int) bool { return bits>>x&1 == 1 })})
	}
	return out
}

// numbers gives numbers below n that are strewn, and the same ones each time.
func numbers(start int) func(n int) int {
	state := uint64(start)*0x9e3779b97f4a7c15 + 12345
	return func(n int) int {
		state = state*6364136223846793005 + 1442695040888963407
		return int(state>>33) % n
	}
}

// strewn gives sets of all v, some with few numbers and some with many.
func strewn() []ring {
	var out []ring
	for v := 1; v <= 60; v++ {
		next := numbers(v)
		for of := 1; of <= 4; of++ {
			out = append(out, ring{v, listOf(v, func(int) bool { return next(5) < of })})
		}
	}
	return out
}

// known is a set of a Level that books tell.
type known struct {
	ring
	level       int
	multipliers []int
}

// knownOnes are planes, spaces, squares, fourth powers, and pairs of primes.
func knownOnes() []known {
	return []known{
		{ring{3, []int{1}}, 0, []int{1, 2}},
		{ring{7, []int{1, 2, 4}}, 1, []int{1, 2, 4}},
		{ring{7, []int{0, 3, 5, 6}}, 2, []int{1, 2, 4}},
		{ring{11, []int{1, 3, 4, 5, 9}}, 2, []int{1, 3, 4, 5, 9}},
		{ring{13, []int{0, 1, 3, 9}}, 1, []int{1, 3, 9}},
		{ring{15, []int{0, 1, 2, 4, 5, 8, 10}}, 3, []int{1, 2, 4, 8}},
		{ring{21, []int{3, 6, 7, 12, 14}}, 1, []int{1, 2, 4, 8, 11, 16}},
		{ring{21, []int{0, 1, 4, 14, 16}}, 1, []int{1, 2, 4, 8, 11, 16}},
		{ring{31, []int{1, 5, 11, 24, 25, 27}}, 1, []int{1, 5, 25}},
		{ring{37, []int{1, 7, 9, 10, 12, 16, 26, 33, 34}}, 2, []int{1, 7, 9, 10, 12, 16, 26, 33, 34}},
		{ring{40, []int{0, 1, 3, 5, 9, 15, 22, 25, 26, 27, 34, 35, 38}}, 4, []int{1, 3, 9, 27}},
		{twins(3, 5), 3, []int{1, 2, 4, 8}},
		{twins(5, 7), 8, []int{1, 3, 4, 9, 11, 12, 13, 16, 17, 27, 29, 33}},
		{ring{57, []int{0, 1, 3, 13, 32, 36, 43, 52}}, 1, []int{1, 7, 49}},
		{whole(60), 60, units(60)},
		{ring{60, nil}, 0, units(60)},
		{ring{60, []int{59}}, 0, units(60)},
	}
}

// twins has, of two primes p and p + 2, what is a square modulo both or modulo none, and what p + 2 divides.
func twins(p, q int) ring {
	square := func(x, n int) bool {
		return len(listOf(n, func(y int) bool { return y*y%n == x%n })) > 0
	}
	return ring{p * q, listOf(p*q, func(x int) bool {
		return x%q == 0 || x%p != 0 && square(x, p) == square(x, q)
	})}
}

// units have no divisor but 1 in common with v.
func units(v int) []int {
	return listOf(v, func(t int) bool { return t > 0 && coprime(t, v) })
}

// coprime: have two no divisor but 1 in common?
func coprime(a, b int) bool {
	for d := 2; d <= b; d++ {
		if a%d == 0 && b%d == 0 {
			return false
		}
	}
	return true
}

// prime counts divisors.
func prime(p int) bool {
	return len(listOf(p+1, func(d int) bool { return d > 0 && p%d == 0 })) == 2
}

// level tells how often each number but 0 is a difference; false, if one is more often.
func level(r ring) (int, bool) {
	out := 0
	for d := 1; d < r.v; d++ {
		often := 0
		for i, x := range r.set {
			for j, y := range r.set {
				if i != j && (y+d)%r.v == x {
					often++
				}
			}
		}
		if d > 1 && often != out {
			return 0, false
		}
		out = often
	}
	return out, true
}

// multipliers tries all t and all s.
func multipliers(r ring) []int {
	return listOf(r.v, func(t int) bool {
		if t == 0 || !coprime(t, r.v) {
			return false
		}
		for s := range r.v {
			if slices.Equal(turned(r, t, 0).set, turned(r, 1, s).set) {
				return true
			}
		}
		return false
	})
}

func wantNumber(t *testing.T, call string, got int, e api.Errno, want int, wantError api.Errno) {
	t.Helper()
	if got != want || e != wantError {
		t.Errorf("%s: got %d, error %d; want %d, error %d", call, got, e, want, wantError)
	}
}

// wantList has no list beside an error.
func wantList(t *testing.T, call string, got []int, e api.Errno, want []int, wantError api.Errno) {
	t.Helper()
	if !slices.Equal(got, want) || e != wantError {
		t.Errorf("%s: got %v, error %d; want %v, error %d", call, got, e, want, wantError)
	}
}

func wantDesign(t *testing.T, call string, got api.Design, e api.Errno, want api.Design, wantError api.Errno) {
	t.Helper()
	if got.Points != want.Points || !slices.EqualFunc(got.Blocks, want.Blocks, slices.Equal) || e != wantError {
		t.Errorf("%s: got %v, error %d; want %v, error %d", call, got, e, want, wantError)
	}
}

// power is the product of n factors.
func power(a, n int) int {
	out := 1
	for range n {
		out *= a
	}
	return out
}

// digits gives the k lowest digits of n.
func digits(n, p, k int) []int {
	out := make([]int, k)
	for i := range out {
		out[i] = n % p
		n /= p
	}
	return out
}

// number is what digits leads back to.
func number(a []int, p int) int {
	n := 0
	for i := len(a) - 1; i >= 0; i-- {
		n = n*p + a[i]
	}
	return n
}

// sum adds digit by digit.
func sum(f api.Field, a, b int) int {
	x, y := digits(a, f.Prime, f.Degree), digits(b, f.Prime, f.Degree)
	for i := range x {
		x[i] = (x[i] + y[i]) % f.Prime
	}
	return number(x, f.Prime)
}

// product multiplies by x and adds, from the highest digit of b on.
func product(f api.Field, a, b int) int {
	out := 0
	y := digits(b, f.Prime, f.Degree)
	for i := f.Degree - 1; i >= 0; i-- {
		out = shifted(f, out)
		for range y[i] {
			out = sum(f, out, a)
		}
	}
	return out
}

// shifted gives x times a: what goes over the top comes back as less Low.
func shifted(f api.Field, a int) int {
	x := digits(a, f.Prime, f.Degree)
	top := x[f.Degree-1]
	out := make([]int, f.Degree)
	copy(out[1:], x)
	for i := range out {
		out[i] = ((out[i]-top*f.Low[i])%f.Prime + f.Prime) % f.Prime
	}
	return number(out, f.Prime)
}

// powers of a from 1 on, until one comes again.
func powers(f api.Field, a int) []int {
	out := []int{1}
	for x := a; !slices.Contains(out, x); x = product(f, x, a) {
		out = append(out, x)
	}
	return out
}

// trace is the sum of a to the powers of 1, p, p p ..
func trace(f api.Field, a int) int {
	out := 0
	for i := range f.Degree {
		x := 1
		for range power(f.Prime, i) {
			x = product(f, x, a)
		}
		out = sum(f, out, x)
	}
	return out
}

// singer has the powers of the least root that have no trace.
func singer(f api.Field) ring {
	q, root := power(f.Prime, f.Degree), 1
	for len(powers(f, root)) < q-1 {
		root++
	}
	v, all := (q-1)/(f.Prime-1), powers(f, root)
	return ring{v, listOf(v, func(i int) bool { return trace(f, all[i]) == 0 })}
}
