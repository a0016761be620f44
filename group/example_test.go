package group_test

import (
	"fmt"

	"parterre/group"
)

// Example is the one of README.md.
func Example() {
	square := [][]int{{1, 2, 3, 0}, {2, 1, 0, 3}}
	order, _ := group.Order(4, square)
	has, _ := group.Has(4, square, []int{1, 0, 2, 3})
	second, _ := group.Element(4, square, 1)
	orbits, _ := group.Orbits(4, square)
	primitive, _ := group.Primitive(4, square)
	fixed, _ := group.Fixed(4, square)
	fmt.Println(order, has, second, orbits, primitive, fixed)
	// Output: 8 false [0 3 2 1] [[0 1 2 3]] false [5 0 2 0 1]
}
