package space

// most is the greatest number that Gauss tells.
const most = 1_000_000_000_000_000_000

// over stands for all numbers above most: sums and products stay there, and two of it are no more than an int can be.
const over = most + 1

func sum(a, b int) int {
	return min(a+b, over)
}

func product(a, b int) int {
	if a > 0 && b > over/a {
		return over
	}
	return a * b
}

func power(a, n int) int {
	out := 1
	for range n {
		out = product(out, a)
	}
	return out
}

// gauss goes from rows of no element on to rows of n, by S4's last sentence, so that nothing is divided. Whatever is over makes all over that stands on it, since none of these counts is less than one that it is made of.
func gauss(n, k, q int) int {
	counts := make([]int, k+1)
	counts[0] = 1
	for range n {
		for i := k; i > 0; i-- { // from the right, since the count of one less is needed as it was
			counts[i] = sum(product(power(q, i), counts[i]), counts[i-1])
		}
	}
	return counts[k]
}
