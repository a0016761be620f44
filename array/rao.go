package array

// most is the greatest number that Rao tells.
const most = 1_000_000_000_000_000_000

// over stands for all numbers above most: sums and products stay there, and two of it are no more than an int can be.
const over = most + 1

func rao(k, s, t int) int {
	half := t / 2
	bound := 0
	for i := range half + 1 {
		bound = sum(bound, product(power(s-1, i), choose(k, i)))
	}
	if t%2 == 1 {
		bound = sum(bound, product(power(s-1, half+1), choose(k-1, half)))
	}
	return bound
}

func sum(a, b int) int {
	return min(a+b, over)
}

// product is of numbers from 1 on.
func product(a, b int) int {
	if b > over/a {
		return over
	}
	return a * b
}

// power is that of a number from 1 on.
func power(a, n int) int {
	out := 1
	for range n {
		out = product(out, a)
	}
	return out
}

// choose is how many ways there are to choose k of n, which is at most mostRao; each step comes to such a number, so that nothing is left over.
func choose(n, k int) int {
	out := 1
	for i := range k {
		out = out * (n - i) / (i + 1)
	}
	return out
}
