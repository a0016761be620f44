package plane

import (
	"slices"

	"parterre/api"
	"parterre/design"
)

// leastSize is that of a block of which two points are left, if the one that it has together with another block is taken away.
const leastSize = 3

// planeOrder is of a design that has been looked at; false, if it is no plane.
//
// No four points are looked for. Two blocks that have one point together have two others each, if they have three points or more, and no three of these four lie in a block, since each two lie in just one. The other way round, all blocks of a plane have as many points, and three at least: a point outside of two blocks throws the points of the one to those of the other.
func planeOrder(d api.Design) (int, bool) {
	size, lambda, e := design.Level(d, 2)
	if e != api.OK || lambda != 1 || size < leastSize {
		return 0, false
	}
	// One block alone has no other that it meets.
	meets, _ := design.Meets(d)
	if !slices.Equal(meets, []int{1}) {
		return 0, false
	}
	return size - 1, true
}

// join is of two points of a plane, so that there is such a block.
func join(d api.Design, p, q int) int {
	return slices.IndexFunc(d.Blocks, func(block []int) bool {
		return slices.Contains(block, p) && slices.Contains(block, q)
	})
}

// common has the points of the one that the other one has too.
func common(a, b []int) []int {
	var out []int
	for _, p := range a {
		if slices.Contains(b, p) {
			out = append(out, p)
		}
	}
	return out
}

func isArc(d api.Design, points []int) bool {
	for _, block := range d.Blocks {
		if len(common(block, points)) > 2 {
			return false
		}
	}
	return true
}
