package array

import (
	"parterre/api"
	"parterre/field"
)

// spanned has each row that a basis makes once. They come in order: ahead of the column where a row of the basis leads nothing of it, or of those behind it, is added; in that column just its factor stands.
func spanned(f api.Field, q, n int, basis [][]int) [][]int {
	out := [][]int{make([]int, n)}
	for _, row := range basis {
		var more [][]int
		for _, made := range out {
			for factor := range q {
				more = append(more, added(f, made, factor, row))
			}
		}
		out = more
	}
	return out
}

// added is a row and some times another one; of elements of a field that has been looked at there are no errors.
func added(f api.Field, row []int, factor int, other []int) []int {
	out := make([]int, len(row))
	for i, x := range row {
		times, _ := field.Mul(f, factor, other[i])
		out[i], _ = field.Add(f, x, times)
	}
	return out
}
