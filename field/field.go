// Package field has finite fields.
package field

import "parterre/api"

// Check tells what is wrong with a field.
func Check(f api.Field) api.Errno {
	_, e := open(f)
	return e
}

// Least gives the first field of an order.
func Least(prime, degree int) (api.Field, api.Errno) {
	q := order(prime, degree)
	if q == 0 {
		return api.Field{}, api.ErrRange
	}
	// From q on the numbers of degree + 1 digits begin with 1: they are the monic polynomials, by Low.
	for n := q; n < 2*q; n++ {
		m := polyOf(n, prime)
		if m.irreducible(degree, prime) {
			return api.Field{Prime: prime, Degree: degree, Low: m.low(degree)}, api.OK
		}
	}
	return api.Field{}, api.ErrNone // not reached: there is an irreducible polynomial of each degree
}

// Add gives the sum.
func Add(f api.Field, a, b int) (int, api.Errno) {
	r, e := open(f, a, b)
	if e != api.OK {
		return 0, e
	}
	return r.add(a, b), api.OK
}

// Mul gives the product.
func Mul(f api.Field, a, b int) (int, api.Errno) {
	r, e := open(f, a, b)
	if e != api.OK {
		return 0, e
	}
	return r.mul(a, b), api.OK
}

// Inv gives the inverse.
func Inv(f api.Field, a int) (int, api.Errno) {
	r, e := open(f, a)
	if e != api.OK {
		return 0, e
	}
	if a == 0 {
		return 0, api.ErrNone
	}
	// By Fermat a to the power of q - 1 is 1, so that one factor less is what a times is 1.
	return r.pow(a, r.order-2), api.OK
}

// Pow gives a power.
func Pow(f api.Field, a, n int) (int, api.Errno) {
	r, e := open(f, a)
	if e != api.OK {
		return 0, e
	}
	if n < 0 {
		return 0, api.ErrRange
	}
	return r.pow(a, n), api.OK
}

// Root gives the least element whose powers are all.
func Root(f api.Field) (int, api.Errno) {
	r, e := open(f)
	if e != api.OK {
		return 0, e
	}
	return r.root(), api.OK
}

// Log tells of which power of the root an element is.
func Log(f api.Field, a int) (int, api.Errno) {
	r, e := open(f, a)
	if e != api.OK {
		return 0, e
	}
	if a == 0 {
		return 0, api.ErrNone
	}
	return r.log(a), api.OK
}

// Trace gives the trace.
func Trace(f api.Field, a int) (int, api.Errno) {
	r, e := open(f, a)
	if e != api.OK {
		return 0, e
	}
	return r.trace(a), api.OK
}

// Squares gives all squares but 0.
func Squares(f api.Field) ([]int, api.Errno) {
	r, e := open(f)
	if e != api.OK {
		return nil, e
	}
	return r.squares(), api.OK
}
