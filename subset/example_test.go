package subset_test

import (
	"fmt"

	"parterre/api"
	"parterre/subset"
)

// Example is the one of README.md.
func Example() {
	rank, _ := subset.Rank([]int{1, 3, 4})
	list, _ := subset.Unrank(3, 8)
	shadow, _ := subset.Shadow(4, []int{3, 5, 12})
	apart, _ := subset.Apart(4, []int{3, 5, 12})
	cross, _ := subset.Cross(4, []int{3, 5, 12})
	parts, _ := subset.Cascade(11, 3)
	least, _ := subset.Least(11, 3)
	chains, _ := subset.Chains(3)
	wrong := subset.Check(4, []int{5, 3})
	fmt.Println(rank, list, shadow, apart, cross, parts, least, chains, wrong == api.ErrShape)
	// Output: 8 [1 3 4] [1 2 4 8] true false [5 2] 12 [[0 1 3 7] [2 6] [4 5]] true
}
