package triple

import (
	"slices"

	"parterre/api"
)

// lister takes blocks as they come, and tells them in order.
type lister struct {
	blocks [][]int
}

func (l *lister) add(x, y, z int) {
	block := []int{x, y, z}
	slices.Sort(block)
	l.blocks = append(l.blocks, block)
}

// drop takes back the block that came last.
func (l *lister) drop() []int {
	end := len(l.blocks) - 1
	last := l.blocks[end]
	l.blocks = l.blocks[:end]
	return last
}

// tell is the design of so many points and of all blocks that came.
func (l *lister) tell(points int) api.Design {
	slices.SortFunc(l.blocks, slices.Compare)
	return api.Design{Points: points, Blocks: l.blocks}
}
