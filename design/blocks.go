package design

import "parterre/api"

// open looks at a design and gives its blocks as sets.
func open(d api.Design) ([]set, api.Errno) {
	if d.Points < 1 || d.Points > api.MaxDesign {
		return nil, api.ErrRange
	}
	if len(d.Blocks) > api.MaxBlocks {
		return nil, api.ErrFull
	}
	var out []set
	for _, block := range d.Blocks {
		if e := checkBlock(d.Points, block); e != api.OK {
			return nil, e
		}
		out = append(out, setOf(block))
	}
	return out, api.OK
}

// checkBlock goes through the whole block for points that are none first.
func checkBlock(n int, block []int) api.Errno {
	for _, p := range block {
		if p < 0 || p >= n {
			return api.ErrRange
		}
	}
	for i := 1; i < len(block); i++ {
		if block[i] <= block[i-1] {
			return api.ErrShape
		}
	}
	return api.OK
}

func setOf(block []int) set {
	var out set
	for _, p := range block {
		out |= only(p)
	}
	return out
}

// size is that of all blocks; false, if they are not of one size, or there are none.
func size(blocks []set) (int, bool) {
	if len(blocks) == 0 {
		return 0, false
	}
	k := blocks[0].size()
	for _, b := range blocks {
		if b.size() != k {
			return 0, false
		}
	}
	return k, true
}

// together tells in how many blocks each t of the first n points lie; false, if some lie in more than others.
func together(n, t int, blocks []set) (int, bool) {
	lambda := holding(blocks, below(t))
	for s := range choices(n, t) {
		if holding(blocks, s) != lambda {
			return 0, false
		}
	}
	return lambda, true
}

// holding counts the blocks that have all of s.
func holding(blocks []set, s set) int {
	out := 0
	for _, b := range blocks {
		if s.within(b) {
			out++
		}
	}
	return out
}

// having gives the blocks that have a point.
func having(blocks []set, p int) []set {
	var out []set
	for _, b := range blocks {
		if b.has(p) {
			out = append(out, b)
		}
	}
	return out
}

// lying gives of each of the first n points the set of the numbers of the blocks that have it.
func lying(n int, blocks []set) []set {
	out := make([]set, n)
	for i, b := range blocks {
		for p := range b.points() {
			out[p] |= only(i)
		}
	}
	return out
}

// among is the design whose points are those of kept, numbered anew, and whose blocks are what the blocks have of them.
func among(kept set, blocks []set) api.Design {
	d := api.Design{Points: kept.size()}
	for _, b := range blocks {
		var block []int
		for p := range (b & kept).points() {
			block = append(block, (kept & below(p)).size())
		}
		d.Blocks = append(d.Blocks, block)
	}
	return d
}

func meets(blocks []set) []int {
	var met set // of how many points two blocks have together
	for i, a := range blocks {
		for _, b := range blocks[:i] {
			met |= only((a & b).size())
		}
	}
	var out []int
	for n := range met.points() {
		out = append(out, n)
	}
	return out
}
