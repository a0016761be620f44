package subset

import "sort"

// ways to choose k of n things. None of those that are asked here is above all numbers, nor is what is multiplied on the way: the most is 61 times the ways to choose 29 of 60.
func ways(n, k int) int {
	out := 1
	for i := range k {
		out = out * (n - k + i + 1) / (i + 1)
	}
	return out
}

// areMore: are the ways to choose k of n, which is no less than k, more than m? They never become fewer on the way, so that it may end early; they might else be above all numbers.
func areMore(n, k, m int) bool {
	out := 1
	for i := range k {
		out = out * (n - k + i + 1) / (i + 1)
		if out > m {
			return true
		}
	}
	return false
}

func rank(set []int) int {
	sum := 0
	for i, a := range set {
		sum += ways(a, i+1)
	}
	return sum
}

// unrank begins at the list of the rank 0, of which nothing can be chosen, and raises its numbers from the last on.
func unrank(k, r int) []int {
	set := make([]int, k)
	for i := range set {
		set[i] = i
	}
	for i, a := range falling(r, k, mostNumber+1) {
		set[k-1-i] = a
	}
	return set
}

// falling has the numbers below top of which one can choose k, k - 1, .. in so many ways that they are m in all: each time the greatest, until nothing is left. What is left behind one is less than the next greater one adds, so that they fall.
func falling(m, k, top int) []int {
	var out []int
	for ; m > 0; k-- {
		top = k + sort.Search(top-k-1, func(i int) bool { return areMore(k+i+1, k, m) })
		out = append(out, top)
		m -= ways(top, k)
	}
	return out
}

func least(m, k int) int {
	sum := 0
	for i, a := range falling(m, k, m+k) {
		sum += ways(a, k-1-i)
	}
	return sum
}
