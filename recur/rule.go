package recur

import (
	"iter"

	"parterre/api"
)

// rule is a recurrence that has been looked at.
//
// A window of as many numbers of a row as there are taps is a number too: its digits are the window's numbers, the prime is the base, and the first one is the lowest, so that it is what a division by the prime drops.
type rule struct {
	prime int
	taps  []int
}

func open(p int, taps []int) (rule, api.Errno) {
	if !isPrime(p) {
		return rule{}, api.ErrRange
	}
	if len(taps) < 1 || len(taps) > api.MaxTaps {
		return rule{}, api.ErrShape
	}
	if !allBelow(taps, p) {
		return rule{}, api.ErrRange
	}
	return rule{prime: p, taps: taps}, api.OK
}

// begin looks at the recurrence first and at the seed then, which is the first window.
func begin(p int, taps, seed []int) (rule, int, api.Errno) {
	r, e := open(p, taps)
	if e != api.OK {
		return rule{}, 0, e
	}
	if len(seed) != len(taps) {
		return rule{}, 0, api.ErrShape
	}
	if !allBelow(seed, p) {
		return rule{}, 0, api.ErrRange
	}
	return r, number(seed, p), api.OK
}

// states tells how many windows there are.
func (r rule) states() int {
	return power(r.prime, len(r.taps))
}

// windows gives the windows of a row one after another and has no end: whoever ranges over it leaves it.
func (r rule) windows(first int) iter.Seq[int] {
	top := r.states() / r.prime
	return func(yield func(int) bool) {
		for w := first; yield(w); {
			w = w/r.prime + r.behind(w)*top
		}
	}
}

// behind gives the number that the row has behind a window.
func (r rule) behind(w int) int {
	sum := 0
	// The lowest digit is the furthest ahead, which the last tap is for.
	for i := len(r.taps) - 1; i >= 0; i-- {
		sum += r.taps[i] * (w % r.prime)
		w /= r.prime
	}
	return sum % r.prime
}

func (r rule) run(first, n int) []int {
	var out []int
	for w := range r.windows(first) {
		if len(out) == n {
			break
		}
		out = append(out, w%r.prime)
	}
	return out
}

// period ends, since there are only so many windows.
func (r rule) period(first int) (ahead, period int) {
	steps := 0
	met := make([]int, r.states()) // of each window the step that came to it, counted from 1 on
	for w := range r.windows(first) {
		steps++
		if met[w] > 0 {
			ahead, period = met[w]-1, steps-met[w]
			break
		}
		met[w] = steps
	}
	return ahead, period
}
