package boole_test

import (
	"fmt"

	"parterre/api"
	"parterre/boole"
)

// Example is the one of README.md.
func Example() {
	table := []int{0, 0, 0, 1, 0, 1, 1, 1}
	n, _ := boole.Check(table)
	sum, _ := boole.Anf(table)
	degree, _ := boole.Degree(table)
	spectrum, _ := boole.Spectrum(table)
	far, _ := boole.Far(table)
	bent, _ := boole.Bent([]int{0, 0, 0, 1})
	immune, _ := boole.Immune([]int{0, 1, 1, 0})
	again, _ := boole.Back(spectrum)
	_, wrong := boole.Back([]int{2, 2, 2, 2})
	fmt.Println(n, sum, degree, spectrum, far, bent, immune, again, wrong == api.ErrNone)
	// Output: 3 [0 0 0 1 0 1 1 0] 2 [0 4 4 0 4 0 0 -4] 2 true 1 [0 0 0 1 0 1 1 1] true
}
