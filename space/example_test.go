package space_test

import (
	"fmt"

	"parterre/api"
	"parterre/field"
	"parterre/space"
)

// Example is the one of README.md.
func Example() {
	f, _ := field.Least(3, 1)
	basis, _ := space.Basis(f, 3, [][]int{{1, 2, 0}, {2, 1, 1}})
	normal, _ := space.Normal(f, 3, basis)
	join, _ := space.Join(f, 3, basis, normal)
	meet, _ := space.Meet(f, 3, basis, [][]int{{1, 0, 0}, {0, 1, 1}})
	has, _ := space.Has(f, 3, basis, []int{1, 2, 2})
	planes, _ := space.Gauss(3, 2, 3)
	_, wrong := space.Has(f, 3, basis, []int{1, 2, 3})
	fmt.Println(basis, normal, len(join), meet, has, planes, wrong == api.ErrRange)
	// Output: [[1 2 0] [0 0 1]] [[1 1 0]] 3 [[1 2 2]] true 13 true
}
