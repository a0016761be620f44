package latin

import (
	"parterre/api"
	"parterre/field"
)

// teller tells which number stands in a place.
type teller func(row, column int) int

// orders has which of row, column and number are taken as row, as column and as number.
var orders = [6][3]int{{0, 1, 2}, {0, 2, 1}, {1, 0, 2}, {1, 2, 0}, {2, 0, 1}, {2, 1, 0}}

func filled(n int, tell teller) api.Square {
	out := api.Square{Side: n, Cells: make([]int, 0, n*n)}
	for row := range n {
		for column := range n {
			out.Cells = append(out.Cells, tell(row, column))
		}
	}
	return out
}

func asked(s api.Square) teller {
	return func(row, column int) int { return s.Cells[row*s.Side+column] }
}

// order is of a field that is checked, and so is no great number.
func order(f api.Field) int {
	out := 1
	for range f.Degree {
		out *= f.Prime
	}
	return out
}

// made has no errors left: the field, a and all others are checked.
func made(f api.Field, a int) api.Square {
	return filled(order(f), func(row, column int) int {
		product, _ := field.Mul(f, a, row)
		sum, _ := field.Add(f, product, column)
		return sum
	})
}

// conjugate fills each place once, since no two cells are alike in two of row, column and number.
func conjugate(s api.Square, k int) api.Square {
	var lies [api.MaxSide][api.MaxSide]int
	tell, taken := asked(s), orders[k]
	for row := range s.Side {
		for column := range s.Side {
			cell := [3]int{row, column, tell(row, column)}
			lies[cell[taken[0]]][cell[taken[1]]] = cell[taken[2]]
		}
	}
	return filled(s.Side, func(row, column int) int { return lies[row][column] })
}

// once makes one who tells of each pair of numbers below MaxSide whether it comes for the first time.
func once() func(a, b int) bool {
	var met [api.MaxSide][api.MaxSide]bool
	return func(a, b int) bool {
		if met[a][b] {
			return false
		}
		met[a][b] = true
		return true
	}
}

// apart: does no number stand twice in a row or column?
func apart(rows, columns int, tell teller) bool {
	inRow, inColumn := once(), once()
	for row := range rows {
		for column := range columns {
			x := tell(row, column)
			if !inRow(row, x) || !inColumn(column, x) {
				return false
			}
		}
	}
	return true
}

func orthogonal(n int, one, other teller) bool {
	first := once()
	for row := range n {
		for column := range n {
			if !first(one(row, column), other(row, column)) {
				return false
			}
		}
	}
	return true
}

// intercalates goes by what must be alike: two numbers are just two in four cells if they stand across.
func intercalates(n int, tell teller) int {
	out := 0
	for low := range n {
		for row := range low {
			for right := range n {
				for column := range right {
					if tell(row, column) == tell(low, right) && tell(row, right) == tell(low, column) {
						out++
					}
				}
			}
		}
	}
	return out
}

// crossings counts the ways to choose cells from a row on, one in each, where bits tell the columns and numbers that are taken.
func crossings(n int, tell teller, row int, columns, numbers uint) int {
	if row == n {
		return 1
	}
	out := 0
	for column := range n {
		here, x := uint(1)<<column, uint(1)<<tell(row, column)
		if columns&here == 0 && numbers&x == 0 {
			out += crossings(n, tell, row+1, columns|here, numbers|x)
		}
	}
	return out
}
