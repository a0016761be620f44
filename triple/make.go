package triple

import "parterre/api"

// rows lists blocks of points that are numbered row by row, since all systems that are made are laid out so.
type rows struct {
	lister
	width int
}

func (r *rows) at(row, place int) int {
	return row*r.width + place
}

// upright adds the three points of a place.
func (r *rows) upright(place int) {
	r.add(r.at(0, place), r.at(1, place), r.at(2, place))
}

// slanted adds, for each two places of each of three rows, the block that these have with the place between them, a row further on.
func (r *rows) slanted(between func(x, y int) int) {
	for y := range r.width {
		for x := range y {
			for i := range 3 {
				r.add(r.at(i, x), r.at(i, y), r.at((i+1)%3, between(x, y)))
			}
		}
	}
}

func bose(t int) api.Design {
	r := &rows{width: 2*t + 1}
	for x := range r.width {
		r.upright(x)
	}
	r.slanted(func(x, y int) int { return (x + y) * (t + 1) % r.width })
	return r.tell(6*t + 3)
}

func skolem(t int) api.Design {
	r := &rows{width: 2 * t}
	for x := range t {
		r.upright(x)
		for i := range 3 {
			r.add(6*t, r.at(i, x+t), r.at((i+1)%3, x))
		}
	}
	r.slanted(func(x, y int) int {
		s := (x + y) % r.width
		return s/2 + s%2*t
	})
	return r.tell(6*t + 1)
}

// double lays the points out in two rows, and one behind them.
func double(d api.Design) api.Design {
	r := &rows{width: d.Points}
	for x := range d.Points {
		r.add(r.at(0, x), r.at(1, x), r.at(2, 0))
	}
	for _, b := range d.Blocks {
		r.add(b[0], b[1], b[2])
		for i, x := range b {
			r.add(r.at(0, x), r.at(1, b[(i+1)%3]), r.at(1, b[(i+2)%3]))
		}
	}
	return r.tell(2*d.Points + 1)
}

// product has a row for each point of the first, and in it a place for each of the second.
func product(a, b api.Design) api.Design {
	r := &rows{width: b.Points}
	for x := range a.Points {
		for _, block := range b.Blocks {
			r.pair([]int{x, x, x}, block)
		}
	}
	for _, block := range a.Blocks {
		for y := range b.Points {
			r.pair(block, []int{y, y, y})
		}
		for _, other := range b.Blocks {
			r.pairAll(block, other)
		}
	}
	return r.tell(a.Points * b.Points)
}

// pair adds the block whose points have these three rows and these three places.
func (r *rows) pair(row, place []int) {
	r.add(r.at(row[0], place[0]), r.at(row[1], place[1]), r.at(row[2], place[2]))
}

// pairAll pairs in all six ways: each turn of the places, and each turn of them backwards.
func (r *rows) pairAll(row, place []int) {
	for i := range 3 {
		x, y, z := place[i], place[(i+1)%3], place[(i+2)%3]
		r.pair(row, []int{x, y, z})
		r.pair(row, []int{x, z, y})
	}
}
