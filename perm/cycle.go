package perm

import "parterre/api"

// cycles gives all cycles, those of one point too: each from its least point on, by their least points.
func cycles(a []int) [][]int {
	var out [][]int
	var met [api.MaxPoints]bool
	for least := range a {
		var cycle []int
		for at := least; !met[at]; at = a[at] {
			met[at] = true
			cycle = append(cycle, at)
		}
		if len(cycle) > 0 {
			out = append(out, cycle)
		}
	}
	return out
}

// power turns each cycle by itself, since n is too great to go n times.
func power(a []int, n int) []int {
	out := make([]int, len(a))
	for _, cycle := range cycles(a) {
		long := len(cycle)
		turn := (n%long + long) % long
		for i, at := range cycle {
			out[at] = cycle[(i+turn)%long]
		}
	}
	return out
}

// kind tells of each length how many cycles have it. Other names of the points leave it as it is, and that is all they leave.
type kind [api.MaxPoints + 1]int

func kindOf(a []int) kind {
	var out kind
	for _, cycle := range cycles(a) {
		out[len(cycle)]++
	}
	return out
}

// order is the least common multiple of the lengths, since each cycle comes round by itself.
func (k kind) order() int {
	out := 1
	for long, many := range k {
		if many > 0 {
			out = out / divisor(out, long) * long
		}
	}
	return out
}

// sign changes with each cycle of an even length, since that is made of an odd number of exchanges.
func (k kind) sign() int {
	out := 1
	for long, many := range k {
		if long%2 == 0 && many%2 == 1 {
			out = -out
		}
	}
	return out
}

// divisor is the greatest one that both have.
func divisor(a, b int) int {
	for b > 0 {
		a, b = b, a%b
	}
	return a
}
