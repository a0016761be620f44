package latin_test

import (
	"fmt"

	"parterre/field"
	"parterre/latin"
)

// Example is the one of README.md.
func Example() {
	three, _ := latin.Cyclic(3)
	ways, _ := latin.Transversals(three)
	f, _ := field.Least(2, 2)
	one, _ := latin.Made(f, 1)
	other, _ := latin.Made(f, 2)
	pairs, _ := latin.Orthogonal(one, other)
	twos, _ := latin.Intercalates(one)
	whole, _ := latin.Extend(3, [][]int{{1, 2, 0}})
	turned, _ := latin.Conjugate(whole, 4)
	fmt.Println(three.Cells, ways, pairs, twos, whole.Cells, turned.Cells)
	// Output: [0 1 2 1 2 0 2 0 1] 3 true 12 [1 2 0 0 1 2 2 0 1] [2 0 1 0 1 2 1 2 0]
}
