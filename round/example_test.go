package round_test

import (
	"fmt"

	"parterre/api"
	"parterre/round"
)

// Example is the one of README.md.
func Example() {
	four, _ := round.Circle(4)
	perfect, _ := round.Perfect(4, four)
	pairs := [][]int{{2, 3}, {4, 6}, {1, 5}}
	strong, _ := round.Strong(7, pairs)
	one, _ := round.Develop(7, pairs)
	other, _ := round.Develop(7, [][]int{{5, 4}, {3, 1}, {6, 2}})
	rooms, _ := round.Rooms(8, one, other)
	wrong := round.Check(4, [][]int{{3, 2, 1, 0}, {3, 2, 1, 0}})
	fmt.Println(four, perfect, strong, one[0], rooms, wrong == api.ErrTwice)
	// Output: [[3 2 1 0] [2 3 0 1] [1 0 3 2]] true true [7 5 3 2 6 1 4 0] true true
}
