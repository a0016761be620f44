package perm

import "slices"

// orders tells how many permutations of n points there are.
func orders(n int) int {
	out := 1
	for i := range n {
		out *= i + 1
	}
	return out
}

// rank counts, place by place, those that are the same till there and have a lesser number there.
func rank(a []int) int {
	out := 0
	for i, here := range a {
		lesser := 0
		for _, behind := range a[i+1:] {
			if behind < here {
				lesser++
			}
		}
		out += lesser * orders(len(a)-1-i)
	}
	return out
}

func unrank(n, k int) []int {
	left := make([]int, n) // rises, so that the one numbered i has i lesser ones
	for i := range left {
		left[i] = i
	}
	out := make([]int, 0, n)
	for len(left) > 0 {
		each := orders(len(left) - 1)
		at := k / each
		k %= each
		out = append(out, left[at])
		left = slices.Delete(left, at, at+1)
	}
	return out
}
