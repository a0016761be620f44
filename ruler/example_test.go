package ruler_test

import (
	"fmt"

	"parterre/api"
	"parterre/ruler"
)

// Example is the one of README.md.
func Example() {
	marks, _ := ruler.Best(5)
	golomb, _ := ruler.Check([]int{0, 1, 4, 6})
	a, _ := ruler.Welch(7, 3)
	costas, _ := ruler.Costas(a)
	some, _ := ruler.Costases(6)
	sums, _ := ruler.Sidon([]int{0, 1, 4, 6}, 13)
	round, _ := ruler.Sidon([]int{0, 1, 4, 6}, 12)
	_, wrong := ruler.Welch(7, 2)
	fmt.Println(marks, golomb, a, costas, some, sums, round, wrong == api.ErrNone)
	// Output: [0 1 4 9 11] true [0 2 1 5 3 4] true 116 true false true
}
