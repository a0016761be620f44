package round

import "parterre/api"

const leastTeams = 2

// pair of teams that meet: the lesser one stands first, so that there is one key for both ways round.
type pair struct{ lesser, greater int }

// cell of a square that has a row for each of some rounds, and a column for each of others.
type cell struct{ row, column int }

func isTeams(n int) bool { return n >= leastTeams && n <= api.MaxTeams && n%2 == 0 }

func isComplete(n int, rounds [][]int) bool { return len(rounds) == n-1 }

// checkRound tells what is wrong with one round alone.
func checkRound(n int, round []int) api.Errno {
	if len(round) != n {
		return api.ErrShape
	}
	for _, other := range round {
		if other < 0 || other >= n {
			return api.ErrRange
		}
	}
	for team, other := range round {
		if other == team || round[other] != team {
			return api.ErrNone
		}
	}
	return api.OK
}

// meetings has the number of the round in which two teams meet, and tells whether no two meet in a second one.
func meetings(rounds [][]int) (map[pair]int, bool) {
	out := map[pair]int{}
	for number, round := range rounds {
		for team, other := range round {
			if team > other {
				continue
			}
			met := pair{lesser: team, greater: other}
			if _, twice := out[met]; twice {
				return nil, false
			}
			out[met] = number
		}
	}
	return out, true
}

// fill: does no cell of the square have two pairs? Each pair has a cell, since both rounds are complete.
func fill(a, b [][]int) bool {
	rows, _ := meetings(a) // no two meet twice in rounds that have been looked at
	columns, _ := meetings(b)
	cells := map[cell]int{}
	for met, row := range rows {
		cells[cell{row: row, column: columns[met]}]++
	}
	return len(cells) == len(rows)
}

func isPerfect(rounds [][]int) bool {
	for i, one := range rounds {
		for _, other := range rounds[:i] {
			if ring(one, other) < len(one) {
				return false
			}
		}
	}
	return true
}

// ring is to how many teams one comes from the first one and back, by those who meet in the one round and in the other in turn.
func ring(one, other []int) int {
	long := 2
	for team := other[one[0]]; team != 0; team = other[one[team]] {
		long += 2
	}
	return long
}
