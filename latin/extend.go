package latin

import (
	"slices"

	"parterre/api"
)

// extended takes the first row that fits, again and again: whatever fits can be gone on from (M. Hall), so that no row need be taken back, and these are the rows of the first square.
func extended(n int, rows [][]int) api.Square {
	all := slices.Clone(rows)
	for len(all) < n {
		all = append(all, below(n, all))
	}
	return filled(n, func(row, column int) int { return all[row][column] })
}

// below gives the first row of numbers that stand in none of these rows in the same column.
func below(n int, rows [][]int) []int {
	return wholeRow(n, make([]int, 0, n), func(column, x int) bool {
		return !slices.ContainsFunc(rows, func(row []int) bool { return row[column] == x })
	})
}

// wholeRow gives the first row that begins so and whose other numbers fit, or nil, if there is none.
func wholeRow(n int, begun []int, fits func(column, x int) bool) []int {
	if len(begun) == n {
		return begun
	}
	for x := range n {
		if slices.Contains(begun, x) || !fits(len(begun), x) {
			continue
		}
		if out := wholeRow(n, append(begun, x), fits); out != nil {
			return out
		}
	}
	return nil
}
