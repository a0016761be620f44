package differ_test

import (
	"fmt"

	"parterre/api"
	"parterre/differ"
	"parterre/field"
)

// Example is the one of README.md.
func Example() {
	set := []int{0, 1, 3, 9}
	often, _ := differ.Level(13, set)
	times, _ := differ.Multipliers(13, set)
	plane, _ := differ.Develop(13, set)
	f, _ := field.Least(3, 3)
	v, same, _ := differ.Singer(f)
	squares, _ := differ.Paley(11)
	_, wrong := differ.Paley(13)
	fmt.Println(often, times, plane.Blocks[4], v, same, squares, wrong == api.ErrNone)
	// Output: 1 [1 3 9] [0 4 5 7] 13 [0 1 3 9] [1 3 4 5 9] true
}
