package field

// maxDegree is the greatest that the order of a field lets be: 2 to the power of 6 is api.MaxOrder.
const maxDegree = 6

// poly has the numbers of a polynomial, the constant first; there is room for the product of two elements.
type poly [2*maxDegree - 1]int

// polyOf gives the polynomial whose numbers are the digits of n, p being the base.
func polyOf(n, p int) poly {
	var a poly
	for i := 0; n > 0; i++ {
		a[i] = n % p
		n /= p
	}
	return a
}

// monic gives the polynomial that begins with 1 and goes on with low, from the constant on.
func monic(low []int) poly {
	var a poly
	copy(a[:], low)
	a[len(low)] = 1
	return a
}

func (a poly) number(p int) int {
	n := 0
	for i := len(a) - 1; i >= 0; i-- {
		n = n*p + a[i]
	}
	return n
}

// low gives the first numbers in memory of their own.
func (a poly) low(degree int) []int {
	out := make([]int, degree)
	copy(out, a[:])
	return out
}

func (a poly) plus(b poly, p int) poly {
	for i := range a {
		a[i] = (a[i] + b[i]) % p
	}
	return a
}

// times takes two elements, whose degree is below maxDegree: the product of others would have no room.
func (a poly) times(b poly, p int) poly {
	var c poly
	for i := range maxDegree {
		for j := range maxDegree {
			c[i+j] = (c[i+j] + a[i]*b[j]) % p
		}
	}
	return c
}

// modulo gives what is left of a, divided by a monic m of that degree.
func (a poly) modulo(m poly, degree, p int) poly {
	for i := len(a) - 1; i >= degree; i-- {
		factor := p - a[i] // never below 0, so that % needs no mending
		for j := 0; j <= degree; j++ {
			a[i-degree+j] = (a[i-degree+j] + factor*m[j]) % p
		}
	}
	return a
}

// irreducible tells whether a monic polynomial of that degree is no product: of two factors one has at most half of its degree, and may be taken as monic.
func (a poly) irreducible(degree, p int) bool {
	first := p
	for d := 1; 2*d <= degree; d++ {
		for n := first; n < 2*first; n++ {
			if a.modulo(polyOf(n, p), d, p) == (poly{}) {
				return false
			}
		}
		first *= p
	}
	return true
}
