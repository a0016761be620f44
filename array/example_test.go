package array_test

import (
	"fmt"

	"parterre/api"
	"parterre/array"
	"parterre/field"
	"parterre/latin"
)

// Example is the one of README.md.
func Example() {
	f, _ := field.Least(2, 1)
	runs, _ := array.Linear(f, 3, [][]int{{1, 1, 0}, {0, 1, 1}})
	strength, _ := array.Strength(2, runs)
	left, _ := array.Drop(2, runs, 0)
	ones, _ := array.Take(2, runs, 0, 1)
	three, _ := latin.Cyclic(3)
	nine, _ := array.Squares([]api.Square{three})
	least, _ := array.Rao(7, 2, 2)
	_, wrong := array.Take(3, runs, 0, 2)
	fmt.Println(runs, strength, left, ones, nine[5], least, wrong == api.ErrNone)
	// Output: [[0 0 0] [0 1 1] [1 0 1] [1 1 0]] 2 [[0 0] [1 1] [0 1] [1 0]] [[0 1] [1 0]] [1 2 0] 8 true
}
