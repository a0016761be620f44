package tour_test

import (
	"fmt"

	"parterre/api"
	"parterre/tour"
)

// Example is the one of README.md.
func Example() {
	five := api.Square{Side: 5, Cells: []int{
		0, 1, 0, 1, 1,
		0, 0, 1, 1, 1,
		1, 0, 0, 1, 1,
		0, 0, 0, 0, 1,
		0, 0, 0, 0, 0,
	}}
	scores, _ := tour.Scores(five)
	kings, _ := tour.Kings(five)
	path, _ := tour.Path(five)
	many, _ := tour.Paths(five)
	rings, _ := tour.Rings(five)
	parts, _ := tour.Parts(five)
	_, wrong := tour.Cycle(five)
	could, _ := tour.Could([]int{4, 4, 1, 1, 0})
	fmt.Println(scores, kings, path, many, rings, parts, wrong == api.ErrNone, could)
	// Output: [3 3 3 1 0] [0 1 2] [0 1 2 3 4] 3 1 [[0 1 2] [3] [4]] true false
}
