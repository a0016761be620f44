package group

import (
	"slices"

	"parterre/api"
)

// move is a permutation of the points of a group. It is an array, so that it can be compared and be a key; points that the group has not stay where they are.
type move [api.MaxMoved]int

func still() move {
	var out move
	for i := range out {
		out[i] = i
	}
	return out
}

func moveOf(a []int) move {
	out := still()
	copy(out[:], a)
	return out
}

func movesOf(makers [][]int) []move {
	out := make([]move, len(makers))
	for i, a := range makers {
		out[i] = moveOf(a)
	}
	return out
}

func (m move) list(n int) []int {
	return slices.Clone(m[:n])
}

// then is first m, then next.
func (m move) then(next move) move {
	var out move
	for i, to := range m {
		out[i] = next[to]
	}
	return out
}

func (m move) undone() move {
	var out move
	for i, to := range m {
		out[to] = i
	}
	return out
}

// stay counts the points that stay, of the first n.
func (m move) stay(n int) int {
	out := 0
	for i, to := range m[:n] {
		if i == to {
			out++
		}
	}
	return out
}

func commutator(a, b move) move {
	return a.undone().then(b.undone()).then(a).then(b)
}
