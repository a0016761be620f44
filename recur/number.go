package recur

// isPrime tells whether numbers may be taken modulo p.
func isPrime(p int) bool {
	switch p {
	case 2, 3, 5, 7:
		return true
	}
	return false
}

func allBelow(numbers []int, bound int) bool {
	for _, n := range numbers {
		if n < 0 || n >= bound {
			return false
		}
	}
	return true
}

// power is asked of no more than api.MaxTaps factors, so that it does not wrap round.
func power(p, k int) int {
	out := 1
	for range k {
		out *= p
	}
	return out
}

// digits gives the k lowest digits of n, the lowest first.
func digits(n, p, k int) []int {
	out := make([]int, k)
	for i := range out {
		out[i] = n % p
		n /= p
	}
	return out
}

// number is what leads back from digits.
func number(list []int, p int) int {
	n := 0
	for i := len(list) - 1; i >= 0; i-- {
		n = n*p + list[i]
	}
	return n
}
