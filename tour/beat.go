package tour

import "parterre/api"

func beats(t api.Square, one, other int) bool { return t.Cells[one*t.Side+other] == 1 }

// isDecided: does of each two just one beat the other, and nobody himself?
func isDecided(t api.Square) bool {
	for one := range t.Side {
		if beats(t, one, one) {
			return false
		}
		for other := range one {
			if beats(t, one, other) == beats(t, other, one) {
				return false
			}
		}
	}
	return true
}

func kings(t api.Square) []int {
	var out []int
	for player := range t.Side {
		if isKing(t, player) {
			out = append(out, player)
		}
	}
	return out
}

func isKing(t api.Square, player int) bool {
	for other := range t.Side {
		if other != player && !beats(t, player, other) && !beatsByOne(t, player, other) {
			return false
		}
	}
	return true
}

// beatsByOne: does a player beat someone who beats the other?
func beatsByOne(t api.Square, player, other int) bool {
	for between := range t.Side {
		if beats(t, player, between) && beats(t, between, other) {
			return true
		}
	}
	return false
}

// rings begin each with the greatest of the three, for none to be counted thrice.
func rings(t api.Square) int {
	many := 0
	for greatest := range t.Side {
		for one := range greatest {
			for other := range greatest {
				if beats(t, greatest, one) && beats(t, one, other) && beats(t, other, greatest) {
					many++
				}
			}
		}
	}
	return many
}
