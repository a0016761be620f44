package ruler

import "slices"

// shortest gives the first of the shortest Golomb rulers of n marks.
func shortest(n int) []int {
	// As many differences as there are pairs, all unlike, are not all below that number; and the powers of 2, less 1 each, are a Golomb ruler, so that one is found.
	for length := n * (n - 1) / 2; length < 1<<n; length++ {
		if marks := firstUpTo(n, length); marks != nil {
			return marks
		}
	}
	return nil // not reached
}

// firstUpTo gives the first Golomb ruler of n marks, by its marks, of which none is above length; nil, if there is none.
func firstUpTo(n, length int) []int {
	r := newRow(byMuch)
	r.put(0)
	var grows func(from int) bool
	grows = func(from int) bool {
		if len(r.numbers) == n {
			return true
		}
		// The marks behind the next one have unlike gaps, so that they take this much at least.
		rest := n - len(r.numbers) - 1
		most := length - rest*(rest+1)/2
		for x := from; x <= most; x++ {
			if !r.put(x) {
				continue
			}
			if grows(x + 1) {
				return true
			}
			r.drop()
		}
		return false
	}
	if !grows(1) {
		return nil
	}
	return r.numbers
}

// countCostas tells how many permutations of n points have all gaps unlike. A beginning in which two are the same is not gone on with, since no number behind it mends that.
func countCostas(n int) int {
	r := newRow(byBoth)
	var count func() int
	count = func() int {
		if len(r.numbers) == n {
			return 1
		}
		out := 0
		for x := range n {
			if slices.Contains(r.numbers, x) {
				continue
			}
			if r.put(x) {
				out += count()
				r.drop()
			}
		}
		return out
	}
	return count()
}
