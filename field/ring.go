package field

import "parterre/api"

// primes are all that the order of a field lets be: the next one, 67, is above api.MaxOrder.
var primes = [...]int{2, 3, 5, 7, 11, 13, 17, 19, 23, 29, 31, 37, 41, 43, 47, 53, 59, 61}

func isPrime(n int) bool {
	for _, p := range primes {
		if p == n {
			return true
		}
	}
	return false
}

// order gives prime to the power of degree, or 0 where no field has the two.
func order(prime, degree int) int {
	if !isPrime(prime) {
		return 0
	}
	if degree < 1 || degree > maxDegree {
		return 0
	}
	q := 1
	for range degree {
		q *= prime
		if q > api.MaxOrder { // left at once, so that q cannot wrap round
			return 0
		}
	}
	return q
}

// ring is a field that has been looked at, with what each sum and product needs.
type ring struct {
	prime, degree, order int
	modulus              poly
}

// open looks at a field first and at elements of it then, as all faces are to do.
func open(f api.Field, elements ...int) (ring, api.Errno) {
	q := order(f.Prime, f.Degree)
	if q == 0 {
		return ring{}, api.ErrRange
	}
	if len(f.Low) != f.Degree {
		return ring{}, api.ErrShape
	}
	if !allBelow(f.Low, f.Prime) {
		return ring{}, api.ErrRange
	}
	m := monic(f.Low)
	if !m.irreducible(f.Degree, f.Prime) {
		return ring{}, api.ErrNone
	}
	if !allBelow(elements, q) {
		return ring{}, api.ErrRange
	}
	return ring{prime: f.Prime, degree: f.Degree, order: q, modulus: m}, api.OK
}

func allBelow(numbers []int, bound int) bool {
	for _, n := range numbers {
		if n < 0 || n >= bound {
			return false
		}
	}
	return true
}

func (r ring) add(a, b int) int {
	return polyOf(a, r.prime).plus(polyOf(b, r.prime), r.prime).number(r.prime)
}

func (r ring) mul(a, b int) int {
	c := polyOf(a, r.prime).times(polyOf(b, r.prime), r.prime)
	return c.modulo(r.modulus, r.degree, r.prime).number(r.prime)
}

// pow squares, since n may be as great as a number can be.
func (r ring) pow(a, n int) int {
	out := 1
	for ; n > 0; n /= 2 {
		if n%2 == 1 {
			out = r.mul(out, a)
		}
		a = r.mul(a, a)
	}
	return out
}

// turns tells after how many factors an element, not 0, comes to 1 first: it has as many powers.
func (r ring) turns(a int) int {
	n := 1
	for x := a; x != 1; x = r.mul(x, a) {
		n++
	}
	return n
}

func (r ring) root() int {
	for a := 1; a < r.order; a++ {
		if r.turns(a) == r.order-1 {
			return a
		}
	}
	return 0 // not reached: each finite field has one
}

// log is asked of no 0, which is no power of the root.
func (r ring) log(a int) int {
	g, n := r.root(), 0
	for x := 1; x != a; x = r.mul(x, g) {
		n++
	}
	return n
}

func (r ring) trace(a int) int {
	sum := 0
	for range r.degree {
		sum = r.add(sum, a)
		a = r.pow(a, r.prime)
	}
	return sum
}

func (r ring) squares() []int {
	var found [api.MaxOrder]bool
	for a := 1; a < r.order; a++ {
		found[r.mul(a, a)] = true
	}
	var out []int
	for a, yes := range found {
		if yes {
			out = append(out, a)
		}
	}
	return out
}
