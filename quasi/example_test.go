package quasi_test

import (
	"fmt"

	"parterre/api"
	"parterre/latin"
	"parterre/quasi"
)

// Example is the one of README.md.
func Example() {
	four, _ := latin.Cyclic(4)
	unit, _ := quasi.Unit(four)
	left, _ := quasi.Left(four, 3, 1)
	parts, _ := quasi.Parts(four)
	other := api.Square{Side: 4, Cells: []int{2, 0, 3, 1, 0, 1, 2, 3, 3, 2, 1, 0, 1, 3, 0, 2}}
	group, _ := quasi.Associates(other)
	names, _ := quasi.Alike(four, other)
	_, wrong := quasi.Unit(api.Square{Side: 3, Cells: []int{0, 2, 1, 2, 1, 0, 1, 0, 2}})
	fmt.Println(unit, left, parts, group, names, wrong == api.ErrNone)
	// Output: 0 2 3 true [1 0 2 3] true
}
