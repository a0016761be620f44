package hada_test

import (
	"fmt"

	"parterre/api"
	"parterre/hada"
)

// Example is the one of README.md.
func Example() {
	two, _ := hada.Sylvester(1)
	p, _ := hada.Paley(3)
	sum, _ := hada.Excess(p)
	even, _ := hada.Even(p)
	eight, _ := hada.Product(two, p)
	d, _ := hada.Blocks(eight)
	_, wrong := hada.Paley(13)
	fmt.Println(two.Cells, sum, even.Cells[12:], hada.Check(eight) == api.OK, d.Points, d.Blocks, wrong == api.ErrNone)
	// Output: [1 1 1 -1] 4 [1 -1 1 -1] true 7 [[2 3 6] [0 3 4] [1 3 5] [0 1 2] [2 4 5] [0 5 6] [1 4 6]] true
}
