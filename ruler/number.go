package ruler

import "parterre/api"

// mostMarks and farthest bound the marks that Check takes.
const (
	mostMarks = 60
	farthest  = 1_000_000_000
)

// checkMarks tells what is wrong with marks. It looks at all numbers ahead of their order, so that a difference is never too great for an int.
func checkMarks(marks []int) api.Errno {
	if len(marks) > mostMarks {
		return api.ErrFull
	}
	for _, x := range marks {
		if x < 0 || x > farthest {
			return api.ErrRange
		}
	}
	for i, x := range marks {
		if i == 0 && x != 0 || i > 0 && x <= marks[i-1] {
			return api.ErrShape
		}
	}
	return api.OK
}

// powers gives the first p - 1 powers of a number modulo p, from 1 on, which is its power of 0.
func powers(p, root int) []int {
	out := make([]int, p-1)
	power := 1
	for i := range out {
		out[i] = power
		power = power * root % p
	}
	return out
}

func lessOne(list []int) []int {
	out := make([]int, len(list))
	for i, x := range list {
		out[i] = x - 1
	}
	return out
}

// sumsUnlike: are the sums of two of a set modulo v, of which both may be the same one, all unlike?
func sumsUnlike(set []int, v int) bool {
	often := map[int]int{}
	for i, x := range set {
		for _, y := range set[i:] {
			sum := (x + y) % v
			often[sum]++
			if often[sum] > 1 {
				return false
			}
		}
	}
	return true
}
