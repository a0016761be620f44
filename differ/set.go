package differ

import (
	"parterre/api"
	"parterre/field"
)

// members tells of each number whether it is in a set, so that sets are compared whatever the order in which their numbers came.
type members [api.MaxRing]bool

func (m members) list() []int {
	var out []int
	for x, in := range m {
		if in {
			out = append(out, x)
		}
	}
	return out
}

// image has each number of a set times t, and s added, modulo v.
func image(v int, set []int, t, s int) members {
	var out members
	for _, x := range set {
		out[(x*t+s)%v] = true
	}
	return out
}

// multiplies: does some s make the set times t the set with s added?
func multiplies(v int, set []int, t int) bool {
	times := image(v, set, t, 0)
	for s := range v {
		if times == image(v, set, 1, s) {
			return true
		}
	}
	return false
}

// differences tells of each number how often it is the one of a set less another, both ways round. Of 0 it counts each with itself too, which nobody asks for.
func differences(v int, set []int) map[int]int {
	out := map[int]int{}
	for _, x := range set {
		for _, y := range set {
			out[(x-y+v)%v]++ // v is added, since % tells what is below 0 otherwise
		}
	}
	return out
}

func rises(list []int) bool {
	for i := 1; i < len(list); i++ {
		if list[i] <= list[i-1] {
			return false
		}
	}
	return true
}

// divisor is the greatest that two numbers have in common.
func divisor(a, b int) int {
	for b != 0 {
		a, b = b, a%b
	}
	return a
}

// directions counts the powers of the root of a field that are no multiples of each other by numbers below its Prime: 1 + p + p p + ..
func directions(f api.Field) int {
	out := 0
	for range f.Degree {
		out = out*f.Prime + 1
	}
	return out
}

// traceless gives the numbers below v to whose powers the root of a field, which has been looked at, has no trace.
func traceless(f api.Field, v int) []int {
	root, _ := field.Root(f)
	var out []int
	for i := range v {
		power, _ := field.Pow(f, root, i)
		if trace, _ := field.Trace(f, power); trace == 0 {
			out = append(out, i)
		}
	}
	return out
}
