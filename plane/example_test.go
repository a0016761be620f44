package plane_test

import (
	"fmt"

	"parterre/api"
	"parterre/field"
	"parterre/plane"
)

// Example is the one of README.md.
func Example() {
	f, _ := field.Least(3, 1)
	d, _ := plane.Make(f)
	order, _ := plane.Check(d)
	block, _ := plane.Join(d, 0, 5)
	point, _ := plane.Meet(d, 0, 1)
	oval, _ := plane.Conic(f)
	arc, _ := plane.Arc(d, oval)
	more, _ := plane.Arc(d, append(oval, 12))
	_, wrong := plane.Join(d, 5, 5)
	fmt.Println(d.Points, order, block, d.Blocks[block], point, oval, arc, more, wrong == api.ErrTwice)
	// Output: 13 3 1 [0 4 5 6] 4 [0 4 8 11] true false true
}
