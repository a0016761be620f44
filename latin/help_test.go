package latin_test

import (
	"fmt"
	"slices"
	"testing"

	"parterre/api"
	"parterre/field"
)

// The helpers here go by the words of the document, and by other ways than the package, so that a fault of the one is no fault of the other.

// rowsOf cuts a square into rows that share no memory with it.
func rowsOf(s api.Square) [][]int {
	out := [][]int{}
	for i := range s.Side {
		out = append(out, slices.Clone(s.Cells[i*s.Side:(i+1)*s.Side]))
	}
	return out
}

func squareOf(rows [][]int) api.Square {
	return api.Square{Side: len(rows), Cells: slices.Concat(rows...)}
}

func table(n int, of func(i, j int) int) api.Square {
	rows := make([][]int, n)
	for i := range rows {
		for j := range n {
			rows[i] = append(rows[i], of(i, j))
		}
	}
	return squareOf(rows)
}

// cyclic adds one to the number ahead, and takes n off where it comes to that.
func cyclic(n int) api.Square {
	next := func(x int) int {
		if x+1 == n {
			return 0
		}
		return x + 1
	}
	rows := [][]int{}
	first := 0
	for range n {
		row := []int{first}
		for len(row) < n {
			row = append(row, next(row[len(row)-1]))
		}
		rows = append(rows, row)
		first = next(first)
	}
	return squareOf(rows)
}

// bitwise is the square of the group in which each element is its own inverse; n is a power of 2.
func bitwise(n int) api.Square {
	return table(n, func(i, j int) int { return i ^ j })
}

// isLatin sorts each row and each column.
func isLatin(s api.Square) bool {
	if s.Side < 1 || s.Side > 8 || len(s.Cells) != s.Side*s.Side {
		return false
	}
	for i := range s.Side {
		var row, column []int
		for j := range s.Side {
			row = append(row, s.Cells[s.Side*i+j])
			column = append(column, s.Cells[s.Side*j+i])
		}
		slices.Sort(row)
		slices.Sort(column)
		if !slices.Equal(row, stay(s.Side)) || !slices.Equal(column, stay(s.Side)) {
			return false
		}
	}
	return true
}

func stay(n int) []int {
	out := make([]int, n)
	for i := range out {
		out[i] = i
	}
	return out
}

// permutations gives all of n points, in order.
func permutations(n int) [][]int {
	if n == 0 {
		return [][]int{{}}
	}
	var out [][]int
	for first := range n {
		for _, a := range permutations(n - 1) {
			p := []int{first}
			for _, x := range a {
				if x >= first {
					x++
				}
				p = append(p, x)
			}
			out = append(out, p)
		}
	}
	return out
}

// all gives all Latin squares of a side, in order by their cells: all ways to take n permutations as rows, but those that go wrong.
func all(n int) []api.Square {
	begun := [][][]int{{}}
	for range n {
		var longer [][][]int
		for _, rows := range begun {
			for _, p := range permutations(n) {
				if !slices.ContainsFunc(rows, func(row []int) bool { return meet(row, p) }) {
					longer = append(longer, append(slices.Clone(rows), p))
				}
			}
		}
		begun = longer
	}
	var out []api.Square
	for _, rows := range begun {
		out = append(out, squareOf(rows))
	}
	return out
}

// meet: have two rows one number in one place?
func meet(a, b []int) bool {
	for i, x := range a {
		if x == b[i] {
			return true
		}
	}
	return false
}

// small are all Latin squares of up to 4 rows.
func small() []api.Square {
	var out []api.Square
	for n := 1; n <= 4; n++ {
		out = append(out, all(n)...)
	}
	return out
}

// mixed gives a permutation of n points that looks like none: the same one for the same start.
func mixed(n, start int) []int {
	out := stay(n)
	x := uint64(start)*2654435761 + 12345
	for i := n - 1; i > 0; i-- {
		x = x*6364136223846793005 + 1442695040888963407
		j := int(x>>33) % (i + 1)
		out[i], out[j] = out[j], out[i]
	}
	return out
}

// shuffled exchanges rows, columns and numbers.
func shuffled(s api.Square, start int) api.Square {
	rows, columns, numbers := mixed(s.Side, 3*start), mixed(s.Side, 3*start+1), mixed(s.Side, 3*start+2)
	return table(s.Side, func(i, j int) int { return numbers[s.Cells[rows[i]*s.Side+columns[j]]] })
}

// great are some Latin squares of 5 to 8 rows: groups and others, shuffled.
func great() []api.Square {
	var out []api.Square
	for n := 5; n <= 8; n++ {
		for start := range 4 {
			out = append(out, shuffled(cyclic(n), start), shuffled(first(n, [][]int{mixed(n, start)}), start), first(n, [][]int{mixed(n, start), shift(mixed(n, start), 2)}))
		}
	}
	return append(out, cyclic(5), cyclic(6), cyclic(7), cyclic(8), bitwise(8), shuffled(bitwise(8), 5), shuffled(sixth(), 6))
}

// sixth is the group of all permutations of 3 points, which minds the order.
func sixth() api.Square {
	p := permutations(3)
	return table(6, func(i, j int) int {
		both := []int{p[j][p[i][0]], p[j][p[i][1]], p[j][p[i][2]]}
		return slices.IndexFunc(p, func(x []int) bool { return slices.Equal(x, both) })
	})
}

func shift(row []int, by int) []int {
	return append(slices.Clone(row[by:]), row[:by]...)
}

// first goes cell by cell, over the ends of the rows, and takes back whatever cannot be gone on from: nothing of Hall's is in it.
func first(n int, rows [][]int) api.Square {
	cells := slices.Concat(rows...)
	begun := len(cells)
	for x := 0; len(cells) < n*n; {
		at := len(cells)
		for x < n && !free(n, cells, at, x) {
			x++
		}
		if x < n {
			cells = append(cells, x)
			x = 0
			continue
		}
		if at == begun {
			return api.Square{}
		}
		x = cells[at-1] + 1
		cells = cells[:at-1]
	}
	return api.Square{Side: n, Cells: slices.Clone(cells)}
}

// free: may x come behind these cells?
func free(n int, cells []int, at, x int) bool {
	for k, y := range cells {
		if y == x && (k/n == at/n || k%n == at%n) {
			return false
		}
	}
	return true
}

// transversals tries all ways to have one column a row.
func transversals(s api.Square) int {
	out := 0
	for _, p := range permutations(s.Side) {
		met := map[int]bool{}
		for i, j := range p {
			met[s.Cells[i*s.Side+j]] = true
		}
		if len(met) == s.Side {
			out++
		}
	}
	return out
}

// intercalates counts what stands in four cells.
func intercalates(s api.Square) int {
	out := 0
	for a := 0; a < s.Side; a++ {
		for b := a + 1; b < s.Side; b++ {
			for c := 0; c < s.Side; c++ {
				for d := c + 1; d < s.Side; d++ {
					met := map[int]bool{}
					for _, k := range []int{a*s.Side + c, a*s.Side + d, b*s.Side + c, b*s.Side + d} {
						met[s.Cells[k]] = true
					}
					if len(met) == 2 {
						out++
					}
				}
			}
		}
	}
	return out
}

func orthogonal(a, b api.Square) bool {
	met := map[[2]int]bool{}
	for k, x := range a.Cells {
		met[[2]int{x, b.Cells[k]}] = true
	}
	return len(met) == a.Side*a.Side
}

// fields gives all fields of this prime and degree, whatever the polynomial.
func fields(prime, degree int) []api.Field {
	lows := [][]int{nil}
	for range degree {
		var longer [][]int
		for _, low := range lows {
			for x := range prime {
				longer = append(longer, append(slices.Clone(low), x))
			}
		}
		lows = longer
	}
	var out []api.Field
	for _, low := range lows {
		if f := (api.Field{Prime: prime, Degree: degree, Low: low}); field.Check(f) == api.OK {
			out = append(out, f)
		}
	}
	return out
}

// smallFields are all that have at most 8 elements.
func smallFields() []api.Field {
	return slices.Concat(fields(2, 1), fields(3, 1), fields(2, 2), fields(5, 1), fields(7, 1), fields(2, 3))
}

func orderOf(f api.Field) int {
	out := f.Prime
	for range f.Degree - 1 {
		out *= f.Prime
	}
	return out
}

func name(call string, s api.Square) string {
	return fmt.Sprintf("%s of side %d, %v", call, s.Side, s.Cells)
}

func same(a, b api.Square) bool {
	return a.Side == b.Side && slices.Equal(a.Cells, b.Cells)
}

func wantSquare(t *testing.T, call string, got api.Square, e api.Errno, want api.Square) {
	t.Helper()
	if !same(got, want) || e != api.OK {
		t.Errorf("%s: got %v, error %d; want %v", call, got, e, want)
	}
}

// wantNumber is for what gives a number and no error.
func wantNumber(t *testing.T, call string, got int, e api.Errno, want int) {
	t.Helper()
	if got != want || e != api.OK {
		t.Errorf("%s: got %d, error %d; want %d", call, got, e, want)
	}
}

// wantNoSquare is for an error, and nothing beside it (P1).
func wantNoSquare(t *testing.T, call string, got api.Square, e, want api.Errno) {
	t.Helper()
	if got.Side != 0 || len(got.Cells) != 0 || e != want {
		t.Errorf("%s: got %v, error %d; want error %d", call, got, e, want)
	}
}
