package design

import (
	"iter"
	"math/bits"
)

// set of points: the bit of a point is set, if the point is in it. No design has more points, or a dual one more blocks, than a word has bits.
type set uint64

func only(p int) set { return 1 << p }

// below has the first n points.
func below(n int) set { return 1<<n - 1 }

func (s set) size() int { return bits.OnesCount64(uint64(s)) }

func (s set) has(p int) bool { return s>>p&1 == 1 }

func (s set) within(t set) bool { return s&^t == 0 }

func (s set) without(t set) set { return s &^ t }

// points come rising.
func (s set) points() iter.Seq[int] {
	return func(yield func(int) bool) {
		for left := s; left != 0 && yield(left.first()); {
			left &= left - 1
		}
	}
}

// first is of a set that is not empty.
func (s set) first() int { return bits.TrailingZeros64(uint64(s)) }

// choices gives all sets of t of the first n points: whatever the last point is, the others are a choice of those below it.
func choices(n, t int) iter.Seq[set] {
	return func(yield func(set) bool) {
		if t == 0 {
			yield(0)
			return
		}
		for last := t - 1; last < n; last++ {
			for others := range choices(last, t-1) {
				if !yield(others | only(last)) {
					return
				}
			}
		}
	}
}
