package hada

import (
	"math/bits"
	"slices"

	"parterre/api"
)

// teller gives what stands in a row and a column, so that a matrix is made of others without any being laid down in between.
type teller func(row, column int) int

func filled(side int, tell teller) api.Square {
	out := api.Square{Side: side, Cells: make([]int, 0, side*side)}
	for row := range side {
		for column := range side {
			out.Cells = append(out.Cells, tell(row, column))
		}
	}
	return out
}

// asked tells of a matrix whose shape has been looked at.
func asked(s api.Square) teller {
	return func(row, column int) int { return s.Cells[row*s.Side+column] }
}

func sign(positive bool) int {
	if positive {
		return 1
	}
	return -1
}

// balanced: are of each two rows as many columns alike as unlike?
func balanced(side int, tell teller) bool {
	for row := range side {
		for other := range row {
			sum := 0
			for column := range side {
				sum += tell(row, column) * tell(other, column)
			}
			if sum != 0 {
				return false
			}
		}
	}
	return true
}

func sylvester(row, column int) int {
	return sign(bits.OnesCount(uint(row&column))%2 == 0)
}

func paley(p int, squares []int) teller {
	return func(row, column int) int {
		if row == 0 || row == column {
			return 1
		}
		// p is added, since % tells what is below 0 otherwise.
		return sign(column > 0 && slices.Contains(squares, (column-row+p)%p))
	}
}

// product has the second matrix, of the side that is given, in each place of the first.
func product(one, other teller, side int) teller {
	return func(row, column int) int {
		return one(row/side, column/side) * other(row%side, column%side)
	}
}

// even makes the first column 1, and then, of what that has become, the first row.
func even(tell teller) teller {
	begun := func(row, column int) int { return tell(row, column) * tell(row, 0) }
	return func(row, column int) int { return begun(row, column) * begun(0, column) }
}

// blocks has the points where a row has 1. The first row and the first column tell nothing, and are left out.
func blocks(side int, tell teller) api.Design {
	d := api.Design{Points: side - 1}
	for row := 1; row < side; row++ {
		var block []int
		for column := 1; column < side; column++ {
			if tell(row, column) == 1 {
				block = append(block, column-1)
			}
		}
		d.Blocks = append(d.Blocks, block)
	}
	return d
}
