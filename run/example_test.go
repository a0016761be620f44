package run_test

import (
	"fmt"

	"parterre/run"
)

// Example is the one of README.md.
func Example() {
	fmt.Print(run.Run("field 2 3\norder 3 1,2,0/1,0,2\nextend 3 1,0,2\nlevel 3 0,1/0,2/1,2 2\nleast 2 0,0,1\ncould 0,0,2\ngauss 4 2 1\nfly\n"))
	// Output:
	// 1,1,0
	// 6
	// 1,0,2/0,2,1/2,1,0
	// 2 1
	// 3 -
	// no
	// ErrRange
	// bad
}
