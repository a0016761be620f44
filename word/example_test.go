package word_test

import (
	"fmt"

	"parterre/api"
	"parterre/word"
)

// Example is the one of README.md.
func Example() {
	gray, _ := word.Gray(3)
	place, _ := word.Place(3, 5)
	lyndon, _ := word.Lyndon([]int{0, 1, 0, 2})
	lengths, _ := word.Factors([]int{1, 0, 2, 0, 1})
	many, _ := word.Primes(2, 6)
	next, _ := word.Next(3, []int{0, 1, 2, 2})
	round, _ := word.Bruijn(2, 4)
	_, wrong := word.Next(3, []int{1, 0})
	fmt.Println(gray, place, lyndon, lengths, many, next, round, wrong == api.ErrShape)
	// Output: [0 1 3 2 6 7 5 4] 6 true [1 2 2] 9 [0 2] [0 0 0 0 1 0 0 1 1 0 1 0 1 1 1 1] true
}
