package strong

import (
	"math/bits"

	"parterre/api"
)

// places are so many, numbered from 0.
type places int

// pairs goes through each two places: by the lower one, then by the greater one.
func (n places) pairs(yield func(lower, greater int) bool) {
	for lower := range int(n) {
		for greater := lower + 1; greater < int(n); greater++ {
			if !yield(lower, greater) {
				return
			}
		}
	}
}

// graph has a bit for each place that a place is joined to, so that what two have in common is told in one step.
type graph struct {
	places
	to [api.MaxGraph]uint32
}

// open lays a graph down, once nothing is wrong with it.
func open(s api.Square) (graph, api.Errno) {
	if s.Side < 1 || s.Side > api.MaxGraph {
		return graph{}, api.ErrRange
	}
	if len(s.Cells) != s.Side*s.Side {
		return graph{}, api.ErrShape
	}
	g := graph{places: places(s.Side)}
	for i, x := range s.Cells {
		switch x {
		case 0:
		case 1:
			g.join(i/s.Side, i%s.Side)
		default:
			return graph{}, api.ErrRange
		}
	}
	if !g.mutual() {
		return graph{}, api.ErrNone
	}
	return g, api.OK
}

// join is one way only: mutual tells whether the other way is there too.
func (g *graph) join(from, to int) {
	g.to[from] |= 1 << to
}

func (g graph) joined(from, to int) bool {
	return g.to[from]>>to&1 == 1
}

// mutual: is no place joined to itself, and none to one that is not joined to it?
func (g graph) mutual() bool {
	for place := range int(g.places) {
		if g.joined(place, place) {
			return false
		}
	}
	for a, b := range g.pairs {
		if g.joined(a, b) != g.joined(b, a) {
			return false
		}
	}
	return true
}

func (g graph) degree(place int) int {
	return bits.OnesCount32(g.to[place])
}

// common is to how many places both are joined.
func (g graph) common(a, b int) int {
	return bits.OnesCount32(g.to[a] & g.to[b])
}

// friendly: have each two places just one in common?
func (g graph) friendly() bool {
	for a, b := range g.pairs {
		if g.common(a, b) != 1 {
			return false
		}
	}
	return true
}

// numbers tells whether the graph is strong, too.
func (g graph) numbers() (api.Strong, bool) {
	var degree, near, far level
	for place := range int(g.places) {
		if !degree.holds(g.degree(place)) {
			return api.Strong{}, false
		}
	}
	for a, b := range g.pairs {
		kind := &far
		if g.joined(a, b) {
			kind = &near
		}
		if !kind.holds(g.common(a, b)) {
			return api.Strong{}, false
		}
	}
	return api.Strong{Places: int(g.places), Degree: degree.number, Near: near.number, Far: far.number}, true
}

// level is a number that many have; where there are none of them it stays 0.
type level struct {
	number int
	seen   bool
}

// holds takes the first number that comes, and tells of each whether it is that one.
func (l *level) holds(number int) bool {
	if !l.seen {
		*l = level{number: number, seen: true}
	}
	return l.number == number
}

// drawn writes a graph as cells. What is asked of the lower place and the greater one holds the other way round, too.
func drawn(n places, joined func(lower, greater int) bool) api.Square {
	side := int(n)
	out := api.Square{Side: side, Cells: make([]int, side*side)}
	for a, b := range n.pairs {
		if joined(a, b) {
			out.Cells[a*side+b] = 1
			out.Cells[b*side+a] = 1
		}
	}
	return out
}
