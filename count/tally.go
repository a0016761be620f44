package count

// tally has of each number of cycles how many moves have so many.
type tally map[int]int

// unlike is how many colourings there are, those being one that are moved to one another: as many as stay, on the average of the moves, and one stays where each cycle has one colour.
func (t tally) unlike(colours int) int {
	moves, stay := 0, 0
	for cycles, many := range t {
		moves += many
		stay += many * power(colours, cycles)
	}
	return stay / moves
}

// turns are those of a ring of n beads: a turn by i beads leads on by all that n and i have together.
func turns(n int) tally {
	out := tally{}
	for i := range n {
		out[divisor(n, i)]++
	}
	return out
}

// turnsOver are the turns, and as many that turn the ring over: each leaves beads in pairs, but for those that stay: one, if n is odd; else none, or two that lie across.
func turnsOver(n int) tally {
	out := turns(n)
	for i := range n {
		stay := n % 2
		if n%2 == 0 && i%2 == 0 {
			stay = 2
		}
		out[(n+stay)/2]++
	}
	return out
}

// rings has few beads, wherever there are two colours. Of one colour there is one ring, and its beads may be too many to turn.
func rings(n, colours int, moves func(int) tally) int {
	if colours == 1 {
		return 1
	}
	return moves(n).unlike(colours)
}

func power(base, n int) int {
	out := 1
	for range n {
		out *= base
	}
	return out
}

// tooMany: are there more rings than may be, ahead of turning? Nothing is multiplied that may be too great, and one colour is told ahead, since its power never grows.
func tooMany(n, colours int) bool {
	if colours == 1 {
		return false
	}
	out := 1
	for range n {
		if out > mostRings/colours {
			return true
		}
		out *= colours
	}
	return false
}

// divisor is the greatest one that both have.
func divisor(a, b int) int {
	for b > 0 {
		a, b = b, a%b
	}
	return a
}
