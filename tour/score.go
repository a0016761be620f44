package tour

import (
	"slices"

	"parterre/api"
)

func scores(t api.Square) []int {
	out := make([]int, t.Side)
	for player := range out {
		for other := range t.Side {
			out[player] += t.Cells[player*t.Side+other]
		}
	}
	return out
}

// byScore has the players, the greatest scores ahead.
func byScore(won []int) []int {
	out := make([]int, len(won))
	for player := range out {
		out[player] = player
	}
	slices.SortFunc(out, func(one, other int) int { return won[other] - won[one] })
	return out
}

// pairs of so many players: in each somebody wins, so that they win so often against one another.
func pairs(many int) int { return many * (many - 1) / 2 }

// isLandau: are the least scores never together fewer than those win against one another who have them, and all of them just as many?
func isLandau(won []int) bool {
	sum := 0
	for at, score := range slices.Sorted(slices.Values(won)) {
		sum += score
		if sum < pairs(at+1) {
			return false
		}
	}
	return sum == pairs(len(won))
}
