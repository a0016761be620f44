package array

import "math/bits"

// columns are some of those that runs have, a bit for each.
type columns uint

// entry is what a run has in some columns; in all others it has 0, so that two are alike just where the columns are.
type entry [mostColumns]int

// triesAll: does each list of t numbers stand in as many runs, whichever t columns are chosen?
func triesAll(s int, runs [][]int, t int) bool {
	each := len(runs) / power(s, t)
	for chosen := range columns(1) << len(runs[0]) {
		if bits.OnesCount(uint(chosen)) == t && !chosen.noneAbove(runs, each) {
			return false
		}
	}
	return true
}

// noneAbove: does no list stand in more runs than its share? Then all stand in as many, and the runs can be shared out with none left over, since each run has some list.
func (c columns) noneAbove(runs [][]int, each int) bool {
	seen := map[entry]int{}
	for _, run := range runs {
		there := c.of(run)
		seen[there]++
		if seen[there] > each {
			return false
		}
	}
	return true
}

func (c columns) of(run []int) entry {
	var out entry
	for column, x := range run {
		if c>>column&1 == 1 {
			out[column] = x
		}
	}
	return out
}
