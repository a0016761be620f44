package recur_test

import (
	"fmt"

	"parterre/recur"
)

// Example is the one of README.md.
func Example() {
	row, _ := recur.Run(2, []int{1, 1}, []int{0, 1}, 6)
	ahead, period, _ := recur.Period(2, []int{1, 1}, []int{0, 1})
	length, taps, _ := recur.Least(2, row)
	full, _ := recur.Full(2, 3)
	fmt.Println(row, ahead, period, length, taps, full)
	// Output: [0 1 1 0 1 1] 0 3 2 [1 1] [1 0 1]
}
