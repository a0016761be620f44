package subset

import "iter"

// lessOne gives what a set becomes when one thing is left out.
func lessOne(set int) iter.Seq[int] {
	return func(yield func(int) bool) {
		for left := set; left > 0; left &= left - 1 {
			if !yield(set &^ (left & -left)) {
				return
			}
		}
	}
}

func shadow(n int, sets []int) []int {
	marks := make([]bool, 1<<n)
	for _, set := range sets {
		for less := range lessOne(set) {
			marks[less] = true
		}
	}
	var out []int
	for set, marked := range marks {
		if marked {
			out = append(out, set)
		}
	}
	return out
}

// holders marks all sets within which one of the family lies. They rise, so that each comes behind those that it becomes when a thing is left out.
func holders(n int, sets []int) []bool {
	marks := make([]bool, 1<<n)
	for _, set := range sets {
		marks[set] = true
	}
	for set := range marks {
		for less := range lessOne(set) {
			marks[set] = marks[set] || marks[less]
		}
	}
	return marks
}

func areApart(n int, sets []int) bool {
	holds := holders(n, sets)
	for _, set := range sets {
		for less := range lessOne(set) {
			if holds[less] {
				return false
			}
		}
	}
	return true
}

// doCross looks whether one lies within what another one lacks. The empty set lacks all, so that it lies there itself.
func doCross(n int, sets []int) bool {
	holds := holders(n, sets)
	all := 1<<n - 1
	for _, set := range sets {
		if holds[all&^set] {
			return false
		}
	}
	return true
}
