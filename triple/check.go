package triple

import (
	"parterre/api"
	"parterre/design"
)

// isSystem: one point has no two of which Level could be asked.
func isSystem(d api.Design) bool {
	if d.Points == 1 {
		return len(d.Blocks) == 0
	}
	size, lambda, e := design.Level(d, 2)
	return e == api.OK && size == 3 && lambda == 1
}

// checkTriple looks at one block alone, since all that is wrong with it comes ahead of the next one.
func checkTriple(points int, block []int) api.Errno {
	if e := design.Check(api.Design{Points: points, Blocks: [][]int{block}}); e != api.OK {
		return e
	}
	if len(block) != 3 {
		return api.ErrShape
	}
	return api.OK
}
