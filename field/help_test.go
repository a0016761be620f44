package field_test

import (
	"testing"

	"parterre/api"
	"parterre/field"
)

// The helpers here work on slices, and by other ways than the package, so that a fault of the one is no fault of the other.

// size is a Prime and a Degree, and their order.
type size struct{ p, k, q int }

// sizes gives all that fields may have, found by counting divisors.
func sizes() []size {
	var out []size
	for p := 2; p <= api.MaxOrder; p++ {
		divisors := 0
		for d := 1; d <= p; d++ {
			if p%d == 0 {
				divisors++
			}
		}
		if divisors != 2 {
			continue
		}
		k := 1
		for q := p; q <= api.MaxOrder; q *= p {
			out = append(out, size{p, k, q})
			k++
		}
	}
	return out
}

// digits gives the k lowest digits of n.
func digits(n, p, k int) []int {
	out := make([]int, k)
	for i := range out {
		out[i] = n % p
		n /= p
	}
	return out
}

// number is what digits leads back to.
func number(a []int, p int) int {
	n := 0
	for i := len(a) - 1; i >= 0; i-- {
		n = n*p + a[i]
	}
	return n
}

// reducible tells of each number Low of that size whether its polynomial is a product, by making all products of two monic ones.
func reducible(s size) []bool {
	out := make([]bool, s.q)
	for d := 1; d < s.k; d++ {
		left, right := power(s.p, d), power(s.p, s.k-d)
		for a := left; a < 2*left; a++ {
			for b := right; b < 2*right; b++ {
				x, y := digits(a, s.p, d+1), digits(b, s.p, s.k-d+1)
				c := make([]int, s.k+1)
				for i := range x {
					for j := range y {
						c[i+j] = (c[i+j] + x[i]*y[j]) % s.p
					}
				}
				out[number(c[:s.k], s.p)] = true
			}
		}
	}
	return out
}

func power(a, n int) int {
	out := 1
	for range n {
		out *= a
	}
	return out
}

// plainSum adds digit by digit.
func plainSum(f api.Field, a, b int) int {
	x, y := digits(a, f.Prime, f.Degree), digits(b, f.Prime, f.Degree)
	for i := range x {
		x[i] = (x[i] + y[i]) % f.Prime
	}
	return number(x, f.Prime)
}

// plainProduct multiplies by x and adds, from the highest digit of b on.
func plainProduct(f api.Field, a, b int) int {
	out := 0
	y := digits(b, f.Prime, f.Degree)
	for i := f.Degree - 1; i >= 0; i-- {
		out = shifted(f, out)
		for range y[i] {
			out = plainSum(f, out, a)
		}
	}
	return out
}

// shifted gives x times a: what goes over the top comes back as less Low.
func shifted(f api.Field, a int) int {
	x := digits(a, f.Prime, f.Degree)
	top := x[f.Degree-1]
	out := make([]int, f.Degree)
	copy(out[1:], x)
	for i := range out {
		out[i] = ((out[i]-top*f.Low[i])%f.Prime + f.Prime) % f.Prime
	}
	return number(out, f.Prime)
}

// allFields gives each field of each size, found without the package.
func allFields() []api.Field {
	var out []api.Field
	for _, s := range sizes() {
		for n, bad := range reducible(s) {
			if !bad {
				out = append(out, api.Field{Prime: s.p, Degree: s.k, Low: digits(n, s.p, s.k)})
			}
		}
	}
	return out
}

// someFields gives each field of degree 2 or more, and of degree 1 the first and the last one.
func someFields() []api.Field {
	var out []api.Field
	for _, f := range allFields() {
		if f.Degree > 1 || f.Low[0] == 0 || f.Low[0] == f.Prime-1 {
			out = append(out, f)
		}
	}
	return out
}

func orderOf(f api.Field) int { return power(f.Prime, f.Degree) }

// least is Least where nothing may be wrong.
func least(t *testing.T, p, k int) api.Field {
	t.Helper()
	f, e := field.Least(p, k)
	if e != api.OK {
		t.Fatalf("Least(%d, %d): error %d", p, k, e)
	}
	return f
}

// is holds a number and an error against those that are wanted.
func is(t *testing.T, name string, got int, e api.Errno, want int, wantError api.Errno) {
	t.Helper()
	if got != want || e != wantError {
		t.Errorf("%s: got %d, error %d; want %d, error %d", name, got, e, want, wantError)
	}
}

// tables are all sums and products of a field.
type tables struct{ sum, product [][]int }

func tablesOf(t *testing.T, f api.Field) tables {
	t.Helper()
	q := orderOf(f)
	out := tables{make([][]int, q), make([][]int, q)}
	for a := range q {
		for b := range q {
			s, e1 := field.Add(f, a, b)
			m, e2 := field.Mul(f, a, b)
			if e1 != api.OK || e2 != api.OK {
				t.Fatalf("%v: Add, Mul of %d, %d: errors %d, %d", f, a, b, e1, e2)
			}
			out.sum[a] = append(out.sum[a], s)
			out.product[a] = append(out.product[a], m)
		}
	}
	return out
}
