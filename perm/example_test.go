package perm_test

import (
	"fmt"

	"parterre/perm"
)

// Example is the one of README.md.
func Example() {
	a, _ := perm.Parse("(0 1 2)(3 4)", 5)
	order, _ := perm.Order(a)
	sign, _ := perm.Sign(a)
	twice, _ := perm.Compose(a, a)
	text, _ := perm.Cycles(twice)
	rank, _ := perm.Rank(twice)
	fmt.Println(a, order, sign, twice, text, rank)
	// Output: [1 2 0 4 3] 6 -1 [2 0 1 3 4] (0 2 1) 48
}
