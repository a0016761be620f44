package latin_test

import (
	"fmt"
	"math"
	"slices"
	"testing"

	"parterre/api"
	"parterre/field"
	"parterre/latin"
)

// TestCyclic has L2.
func TestCyclic(t *testing.T) {
	for n := 1; n <= 8; n++ {
		got, e := latin.Cyclic(n)
		wantSquare(t, fmt.Sprint("Cyclic of ", n), got, e, cyclic(n))
	}
	for _, n := range []int{0, -1, -8, 9, 10, 64, 1 << 32, 1<<32 + 1, math.MinInt, math.MaxInt} {
		got, e := latin.Cyclic(n)
		wantNoSquare(t, fmt.Sprint("Cyclic of ", n), got, e, api.ErrRange)
	}
}

// TestMade has L2: all fields of up to 8 elements, each cell as the field has it.
func TestMade(t *testing.T) {
	for _, f := range smallFields() {
		for a := 1; a < orderOf(f); a++ {
			got, e := latin.Made(f, a)
			wantSquare(t, fmt.Sprint("Made of ", f, a), got, e, table(orderOf(f), func(i, j int) int {
				product, _ := field.Mul(f, a, i)
				sum, _ := field.Add(f, product, j)
				return sum
			}))
		}
	}
}

// TestMadeByHand has L2: no field is asked.
func TestMadeByHand(t *testing.T) {
	for _, p := range []int{2, 3, 5, 7} {
		f := api.Field{Prime: p, Degree: 1, Low: []int{0}}
		for a := 1; a < p; a++ {
			got, e := latin.Made(f, a)
			wantSquare(t, fmt.Sprint("Made of ", f, a), got, e, table(p, func(i, j int) int { return (a*i + j) % p }))
		}
	}
	four := api.Field{Prime: 2, Degree: 2, Low: []int{1, 1}}
	for a, times := range [][]int{1: {0, 1, 2, 3}, 2: {0, 2, 3, 1}, 3: {0, 3, 1, 2}} {
		if a > 0 {
			got, e := latin.Made(four, a)
			wantSquare(t, fmt.Sprint("Made of ", four, a), got, e, table(4, func(i, j int) int { return times[i] ^ j }))
		}
	}
	// x x x + x + 1 is 0, so that x times x x is x + 1.
	eight := api.Field{Prime: 2, Degree: 3, Low: []int{1, 1, 0}}
	times := []int{0, 2, 4, 6, 3, 1, 7, 5}
	got, e := latin.Made(eight, 2)
	wantSquare(t, "Made of 8 elements and x", got, e, table(8, func(i, j int) int { return times[i] ^ j }))
}

// TestMadeOfNone has L2's errors: the field's, then that of a, then that of too many.
func TestMadeOfNone(t *testing.T) {
	for _, f := range []api.Field{
		{}, {Prime: 2, Degree: 0}, {Prime: 1, Degree: 1, Low: []int{0}}, {Prime: 4, Degree: 1, Low: []int{0}}, {Prime: 2, Degree: 7, Low: make([]int, 7)}, {Prime: 67, Degree: 1, Low: []int{0}},
		{Prime: 2, Degree: 2}, {Prime: 2, Degree: 2, Low: []int{1, 2}}, {Prime: 2, Degree: 2, Low: []int{1, 0}}, {Prime: 3, Degree: 2, Low: []int{0, 0}}, {Prime: 2, Degree: 1, Low: []int{0, 0}}, {Prime: math.MaxInt, Degree: math.MaxInt}, {Prime: math.MinInt, Degree: 1, Low: []int{0}},
	} {
		want := field.Check(f)
		if want == api.OK {
			t.Fatalf("%v is a field", f)
		}
		for _, a := range []int{1, 0, -1, 2, 100, math.MinInt, math.MaxInt} {
			got, e := latin.Made(f, a)
			wantNoSquare(t, fmt.Sprint("Made of ", f, a), got, e, want)
		}
	}
	for _, f := range slices.Concat(smallFields(), fields(3, 2), fields(11, 1), fields(2, 4), fields(61, 1)[:1], fields(2, 6)[:1]) {
		q := orderOf(f)
		for _, a := range []int{0, -1, q, q + 1, 64, 1 << 32, 1<<32 + 1, math.MinInt, math.MaxInt} {
			got, e := latin.Made(f, a)
			wantNoSquare(t, fmt.Sprint("Made of ", f, a), got, e, api.ErrRange)
		}
		for a := 1; a < q && q > 8; a++ {
			got, e := latin.Made(f, a)
			wantNoSquare(t, fmt.Sprint("Made of ", f, a), got, e, api.ErrFull)
		}
	}
}

// words are those of L2, in its order.
func words() []string {
	return []string{"row column number", "row number column", "column row number", "column number row", "number row column", "number column row"}
}

// conjugate goes by the words: of each place it looks for the cell whose triple begins with it.
func conjugate(s api.Square, k int) api.Square {
	var one, two, three string
	fmt.Sscan(words()[k], &one, &two, &three)
	return table(s.Side, func(i, j int) int {
		for at, x := range s.Cells {
			cell := map[string]int{"row": at / s.Side, "column": at % s.Side, "number": x}
			if cell[one] == i && cell[two] == j {
				return cell[three]
			}
		}
		return -1
	})
}

// TestConjugate has L2.
func TestConjugate(t *testing.T) {
	for _, s := range slices.Concat(all(1), all(2), all(3), all(4)[:100], great()) {
		for k := range 6 {
			got, e := latin.Conjugate(s, k)
			wantSquare(t, name("Conjugate", s)+fmt.Sprint(" by ", k), got, e, conjugate(s, k))
		}
	}
}

// TestConjugateByHand has L2: of a square of which all six are unlike.
func TestConjugateByHand(t *testing.T) {
	s := api.Square{Side: 4, Cells: []int{0, 1, 2, 3, 1, 2, 3, 0, 3, 0, 1, 2, 2, 3, 0, 1}}
	for k, want := range [][]int{
		{0, 1, 2, 3, 1, 2, 3, 0, 3, 0, 1, 2, 2, 3, 0, 1},
		{0, 1, 2, 3, 3, 0, 1, 2, 1, 2, 3, 0, 2, 3, 0, 1},
		{0, 1, 3, 2, 1, 2, 0, 3, 2, 3, 1, 0, 3, 0, 2, 1},
		{0, 1, 3, 2, 2, 0, 1, 3, 3, 2, 0, 1, 1, 3, 2, 0},
		{0, 3, 1, 2, 1, 0, 2, 3, 2, 1, 3, 0, 3, 2, 0, 1},
		{0, 2, 3, 1, 1, 0, 2, 3, 3, 1, 0, 2, 2, 3, 1, 0},
	} {
		got, e := latin.Conjugate(s, k)
		wantSquare(t, fmt.Sprint("Conjugate by ", k), got, e, api.Square{Side: 4, Cells: want})
	}
}

// TestNoConjugate has L2's ErrRange.
func TestNoConjugate(t *testing.T) {
	for _, s := range []api.Square{cyclic(1), cyclic(3), cyclic(8)} {
		for _, k := range []int{-1, 6, 7, -6, 1 << 32, math.MinInt, math.MaxInt} {
			got, e := latin.Conjugate(s, k)
			wantNoSquare(t, name("Conjugate", s)+fmt.Sprint(" by ", k), got, e, api.ErrRange)
		}
	}
}
