package count

import (
	"maps"
	"slices"

	"parterre/api"
	"parterre/group"
	"parterre/perm"
)

// kind has of each length, from 1 on, how many cycles have it.
type kind [api.MaxMoved]int

// cycles counts them all.
func (k kind) cycles() int {
	out := 0
	for _, many := range k {
		out += many
	}
	return out
}

// lengths has that of each cycle, the longest first, so that what does not fit is told soon.
func (k kind) lengths() []int {
	var out []int
	for i, many := range slices.Backward(k[:]) {
		out = append(out, slices.Repeat([]int{i + 1}, many)...)
	}
	return out
}

// kinds has of each kind how many permutations of a group are of it. All that is counted hangs on these alone.
type kinds map[kind]int

// kindsOf is of a group of which Check has told that it is one.
func kindsOf(n int, makers [][]int) kinds {
	all, _ := group.All(n, makers)
	out := kinds{}
	for _, a := range all {
		lengths, _ := perm.Kind(a)
		var k kind
		copy(k[:], lengths)
		out[k]++
	}
	return out
}

func (s kinds) cycles() tally {
	out := tally{}
	for k, many := range s {
		out[k.cycles()] += many
	}
	return out
}

// filled is how many colourings there are with so many points of each colour, counted by those that stay, as unlike does it.
func (s kinds) filled(points []int) int {
	moves, stay := 0, 0
	for k, many := range s {
		moves += many
		stay += many * fills(k.lengths(), slices.Clone(points))
	}
	return stay / moves
}

// fills tells in how many ways each cycle is given a colour that has room for it; room is as it was, when it is done. Since room is for as many points as the cycles have, nothing is left when all have one.
func fills(lengths, room []int) int {
	if len(lengths) == 0 {
		return 1
	}
	out := 0
	for c := range room {
		if room[c] >= lengths[0] {
			room[c] -= lengths[0]
			out += fills(lengths[1:], room)
			room[c] += lengths[0]
		}
	}
	return out
}

// rows are by their kinds, the greatest first.
func (s kinds) rows(n int) [][]int {
	order := slices.SortedFunc(maps.Keys(s), func(a, b kind) int { return slices.Compare(b[:], a[:]) })
	out := make([][]int, len(order))
	for i, k := range order {
		out[i] = slices.Concat([]int{s[k]}, k[:n])
	}
	return out
}
