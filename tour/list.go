package tour

import (
	"slices"

	"parterre/api"
)

// paths are all lists of all players in which each but the last beats the next, in order.
func paths(t api.Square) [][]int {
	lists := [][]int{nil}
	for range t.Side {
		lists = longer(t, lists)
	}
	return lists
}

// longer has each list with each player behind it who may be the next. A list is cut at its end, so that what is laid behind it is in memory of its own, and no two that go on from it write into one place.
func longer(t api.Square, lists [][]int) [][]int {
	var out [][]int
	for _, list := range lists {
		end := len(list)
		for next := range t.Side {
			if mayFollow(t, list, next) {
				out = append(out, append(list[:end:end], next))
			}
		}
	}
	return out
}

func mayFollow(t api.Square, list []int, next int) bool {
	if len(list) == 0 {
		return true
	}
	return beats(t, list[len(list)-1], next) && !slices.Contains(list, next)
}

// isClosed: does the last of a list beat the first, or is he the only one?
func isClosed(t api.Square, list []int) bool {
	return len(list) == 1 || beats(t, list[len(list)-1], list[0])
}

// parts are cut from a list of the players, the greatest scores ahead: an end of a part is where those up to there have beaten all behind them. Each is cut at its own end too, so that the next one does not lie behind it, and no memory is in two of them.
func parts(t api.Square) [][]int {
	won := scores(t)
	order := byScore(won)
	var out [][]int
	from, sum := 0, 0
	for at, player := range order {
		sum += won[player]
		end := at + 1
		if sum == pairs(end)+end*(t.Side-end) {
			part := order[from:end:end]
			slices.Sort(part)
			out = append(out, part)
			from = end
		}
	}
	return out
}
