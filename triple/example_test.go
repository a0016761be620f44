package triple_test

import (
	"fmt"

	"parterre/api"
	"parterre/triple"
)

// Example is the one of README.md.
func Example() {
	seven, _ := triple.Make(7)
	fours, _ := triple.Passes(seven)
	fifteen, _ := triple.Double(seven)
	three, _ := triple.Make(3)
	other, _ := triple.Product(seven, three)
	grown, _ := triple.Grow(7, [][]int{{4, 5, 6}})
	_, wrong := triple.Grow(7, [][]int{{0, 1, 2}, {3, 4, 5}})
	fmt.Println(seven.Blocks, fours, fifteen.Points, len(fifteen.Blocks), other.Points, other.Blocks[1], grown.Blocks[:2], wrong == api.ErrNone)
	// Output: [[0 1 3] [0 2 4] [0 5 6] [1 2 6] [1 4 5] [2 3 5] [3 4 6]] 7 15 35 21 [0 3 9] [[0 1 4] [0 2 5]] true
}
