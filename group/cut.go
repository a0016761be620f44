package group

import "parterre/api"

// cut parts the points into lists: it has of each point the least one of its list. So two cuts are the same just if the arrays are.
type cut [api.MaxMoved]int

// apart has each point by itself.
func apart() cut {
	return cut(still())
}

// join makes one list of those of p and of q.
func (c *cut) join(p, q int) {
	least, other := min(c[p], c[q]), max(c[p], c[q])
	for i, first := range c {
		if first == other {
			c[i] = least
		}
	}
}

// whole: are the first n points in one list?
func (c cut) whole(n int) bool {
	for _, first := range c[:n] {
		if first != 0 {
			return false
		}
	}
	return true
}

// lists gives those of the first n points.
func (c cut) lists(n int) [][]int {
	behind := make([][]int, n)
	for p, first := range c[:n] {
		behind[first] = append(behind[first], p)
	}
	var out [][]int
	for _, list := range behind {
		if len(list) > 0 {
			out = append(out, list)
		}
	}
	return out
}

func orbits(makers []move) cut {
	c := apart()
	for _, m := range makers {
		for p, to := range m {
			c.join(p, to)
		}
	}
	return c
}

// kept is the finest cut that the makers keep and that has p and q in one list: what is in one list goes to one list, till that joins nothing more.
func kept(makers []move, p, q int) cut {
	c := apart()
	c.join(p, q)
	for {
		before := c
		for _, m := range makers {
			for i, first := range before {
				c.join(m[i], m[first])
			}
		}
		if c == before {
			return c
		}
	}
}

// primitive tries for each point the finest cut that has it together with the point 0: where there is one orbit, all lists of a cut that is kept are as long as that of 0.
func primitive(n int, makers []move) bool {
	if n < 2 || !orbits(makers).whole(n) {
		return false
	}
	for p := 1; p < n; p++ {
		if !kept(makers, 0, p).whole(n) {
			return false
		}
	}
	return true
}
