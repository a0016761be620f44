package field_test

import (
	"fmt"

	"parterre/api"
	"parterre/field"
)

// Example is the one of README.md.
func Example() {
	f, e := field.Least(2, 3) // the field of 8 elements: x x x + x + 1 is 0
	if e != api.OK {
		return
	}
	product, _ := field.Mul(f, 4, 2) // x x times x is x + 1
	inverse, _ := field.Inv(f, 2)
	_, wrong := field.Inv(f, 0)
	fmt.Println(f.Low, product, inverse, wrong == api.ErrNone)
	// Output: [1 1 0] 3 5 true
}
