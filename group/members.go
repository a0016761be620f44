package group

import "slices"

// members are all moves of a group: in the order in which they were met, and as keys, so that none is met twice.
type members struct {
	all []move
	met map[move]struct{}
}

func (g *members) has(m move) bool {
	_, ok := g.met[m]
	return ok
}

func (g *members) add(m move) {
	if !g.has(m) {
		g.met[m] = struct{}{}
		g.all = append(g.all, m)
	}
}

func (g *members) order() int { return len(g.all) }

// made puts each maker behind each move, also behind those that this adds. What undoes a move comes by itself, since each comes round.
func made(makers []move) *members {
	g := &members{met: map[move]struct{}{}}
	g.add(still())
	for i := 0; i < len(g.all); i++ {
		for _, m := range makers {
			g.add(g.all[i].then(m))
		}
	}
	return g
}

func (g *members) inOrder() []move {
	out := slices.Clone(g.all)
	slices.SortFunc(out, func(a, b move) int { return slices.Compare(a[:], b[:]) })
	return out
}

// deep rests on stabilizers: how many rows the row of the first t points is moved to, times how many moves leave that row where it is, is the order. Where these are all rows, each row is moved to each, by way of that one.
func (g *members) deep(n int) int {
	rows := 1
	for t := 1; t <= n; t++ {
		rows *= n - t + 1
		if rows*g.leave(t) != g.order() {
			return t - 1
		}
	}
	return n
}

// leave counts those that leave the first t points where they are.
func (g *members) leave(t int) int {
	out := 0
	for _, m := range g.all {
		if m.stay(t) == t {
			out++
		}
	}
	return out
}

// centre asks the makers alone: whoever does not mind the order with them does not mind it with what they make.
func (g *members) centre(makers []move) int {
	out := 0
next:
	for _, a := range g.all {
		for _, b := range makers {
			if a.then(b) != b.then(a) {
				continue next
			}
		}
		out++
	}
	return out
}

// derived takes the commutators of all with the makers alone. These make a group that each move of g turns into itself, and but for what is in it no maker minds the order, so all other commutators are in it too.
func (g *members) derived(makers []move) *members {
	var chosen []move
	out := made(chosen)
	for _, a := range g.all {
		for _, b := range makers {
			c := commutator(a, b)
			if !out.has(c) {
				chosen = append(chosen, c)
				out = made(chosen)
			}
		}
	}
	return out
}

func (g *members) fixed(n int) []int {
	out := make([]int, n+1)
	for _, m := range g.all {
		out[m.stay(n)]++
	}
	return out
}
