package strong_test

import (
	"fmt"

	"parterre/api"
	"parterre/field"
	"parterre/strong"
)

// Example is the one of README.md.
func Example() {
	f, _ := field.Least(5, 1)
	ring, _ := strong.Paley(f)
	pairs, _ := strong.Triangle(5)
	numbers, _ := strong.Numbers(pairs)
	petersen, _ := strong.Other(pairs)
	others, _ := strong.Numbers(petersen)
	fits, _ := strong.Fits(api.Strong{Places: 50, Degree: 7, Near: 0, Far: 1})
	mill := api.Square{Side: 5, Cells: []int{0, 1, 1, 0, 0, 1, 0, 1, 1, 1, 1, 1, 0, 0, 0, 0, 1, 0, 0, 1, 0, 1, 0, 1, 0}}
	friend, _ := strong.Friend(mill)
	_, wrong := strong.Friend(ring)
	fmt.Println(ring.Cells[:5], numbers, others, fits, friend, wrong == api.ErrNone)
	// Output: [0 1 0 0 1] {10 6 3 4} {10 3 0 1} true 1 true
}
