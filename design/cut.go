package design

// cutter looks for blocks that cut a set of points: each of its points lies in just one of them, and no other point in any.
type cutter struct {
	blocks []set
	stuck  map[set]struct{} // sets that no blocks cut, so that none is tried again
}

// cuts: are there blocks that cut this? One of them would have its first point, so that only those that have it are tried.
func (c *cutter) cuts(left set) bool {
	if left == 0 {
		return true
	}
	if _, met := c.stuck[left]; met {
		return false
	}
	for _, b := range c.blocks {
		if b.has(left.first()) && b.within(left) && c.cuts(left.without(b)) {
			return true
		}
	}
	c.stuck[left] = struct{}{}
	return false
}

// firstCut takes each block, in order, as soon as what is left without it can still be cut. The blocks that cut it stand further on: one further ahead would have been taken, since it could have been there.
func firstCut(left set, blocks []set) ([]int, bool) {
	c := &cutter{blocks: blocks, stuck: map[set]struct{}{}}
	if !c.cuts(left) {
		return nil, false
	}
	var out []int
	for i, b := range blocks {
		if b != 0 && b.within(left) && c.cuts(left.without(b)) {
			out = append(out, i)
			left = left.without(b)
		}
	}
	return out, true
}
