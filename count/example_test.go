package count_test

import (
	"fmt"

	"parterre/count"
)

// Example is the one of README.md.
func Example() {
	beads, _ := count.Beads(6, 2)
	bracelets, _ := count.Bracelets(6, 2)
	square := [][]int{{1, 2, 3, 0}, {2, 1, 0, 3}}
	colourings, _ := count.Colourings(4, square, 3)
	content, _ := count.Content(4, square, []int{2, 1, 1})
	index, _ := count.Index(4, square)
	fmt.Println(beads, bracelets, colourings, content, index)
	// Output: 14 13 21 2 [[1 4 0 0 0] [2 2 1 0 0] [3 0 2 0 0] [2 0 0 0 1]]
}
