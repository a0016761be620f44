package quasi

import (
	"parterre/api"
	"parterre/perm"
)

// product tells what x times y is.
type product func(x, y int) int

// productOf is of a square that is checked.
func productOf(s api.Square) product {
	var lies [api.MaxSide][api.MaxSide]int
	for k, z := range s.Cells {
		lies[k/s.Side][k%s.Side] = z
	}
	return func(x, y int) int { return lies[x][y] }
}

// first gives the first element of which it holds, and false, if there is none.
func first(n int, holds func(x int) bool) (int, bool) {
	for x := range n {
		if holds(x) {
			return x, true
		}
	}
	return 0, false
}

func always(n int, holds func(x int) bool) bool {
	_, fails := first(n, func(x int) bool { return !holds(x) })
	return !fails
}

func alwaysOfTwo(n int, holds func(x, y int) bool) bool {
	return always(n, func(x int) bool {
		return always(n, func(y int) bool { return holds(x, y) })
	})
}

func unit(n int, times product) (int, bool) {
	return first(n, func(x int) bool {
		return always(n, func(y int) bool { return times(x, y) == y && times(y, x) == y })
	})
}

func commutes(n int, times product) bool {
	return alwaysOfTwo(n, func(x, y int) bool { return times(x, y) == times(y, x) })
}

func associates(n int, times product) bool {
	return alwaysOfTwo(n, func(x, y int) bool {
		return always(n, func(z int) bool {
			return times(times(x, y), z) == times(x, times(y, z))
		})
	})
}

// parts goes through all sets but the empty one: the bits of a number tell which elements a set has.
func parts(n int, times product) int {
	out := 0
	for set := uint(1); set < 1<<n; set++ {
		if closed(n, times, holding(set)) {
			out++
		}
	}
	return out
}

func holding(set uint) func(x int) bool {
	return func(x int) bool { return set>>x&1 == 1 }
}

func closed(n int, times product, has func(x int) bool) bool {
	return alwaysOfTwo(n, func(x, y int) bool {
		return !has(x) || !has(y) || has(times(x, y))
	})
}

// names goes through all permutations, in order, till no rank is left.
func names(n int, one, other product) ([]int, bool) {
	for rank := 0; ; rank++ {
		p, e := perm.Unrank(n, rank)
		if e != api.OK {
			return nil, false
		}
		if alwaysOfTwo(n, func(x, y int) bool { return other(p[x], p[y]) == p[one(x, y)] }) {
			return p, true
		}
	}
}
