package design_test

import (
	"fmt"

	"parterre/api"
	"parterre/design"
)

// Example is the one of README.md.
func Example() {
	nine := api.Design{Points: 9, Blocks: [][]int{
		{0, 1, 2}, {3, 4, 5}, {6, 7, 8}, {0, 3, 6}, {1, 4, 7}, {2, 5, 8},
		{0, 4, 8}, {1, 5, 6}, {2, 3, 7}, {0, 5, 7}, {1, 3, 8}, {2, 4, 6},
	}}
	size, lambda, _ := design.Level(nine, 2)
	meets, _ := design.Meets(nine)
	parallel, _ := design.Parallel(nine)
	through, _ := design.Derived(nine, 4)
	beside, _ := design.Residual(nine, 0)
	_, _, wrong := design.Level(nine, 3)
	fmt.Println(size, lambda, meets, parallel, through.Blocks, beside.Points, beside.Blocks[2], wrong == api.ErrNone)
	// Output: 3 1 [0 1] [0 1 2] [[3 4] [1 6] [0 7] [2 5]] 6 [0 3] true
}
