package perm

import "parterre/api"

func checkBoth(a, b []int) api.Errno {
	if e := Check(a); e != api.OK {
		return e
	}
	if e := Check(b); e != api.OK {
		return e
	}
	if len(a) != len(b) {
		return api.ErrShape
	}
	return api.OK
}

func allBelow(numbers []int, bound int) bool {
	for _, n := range numbers {
		if n < 0 || n >= bound {
			return false
		}
	}
	return true
}

// twice is asked of numbers that are points.
func twice(numbers []int) bool {
	var met [api.MaxPoints]bool
	for _, n := range numbers {
		if met[n] {
			return true
		}
		met[n] = true
	}
	return false
}
