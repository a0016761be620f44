package hada_test

import (
	"fmt"
	"slices"
	"testing"

	"parterre/api"
)

// The helpers here go by the words of the document, by rows of their own and by trying all, so that a fault of the package is no fault of theirs.

// square lays rows one behind the other; the first one's length is the Side.
func square(rows [][]int) api.Square {
	return api.Square{Side: len(rows[0]), Cells: slices.Concat(rows...)}
}

// rowsOf cuts a square into rows of their own.
func rowsOf(s api.Square) [][]int {
	var out [][]int
	for row := range slices.Chunk(s.Cells, s.Side) {
		out = append(out, slices.Clone(row))
	}
	return out
}

func cells(side int, cells ...int) api.Square {
	return api.Square{Side: side, Cells: cells}
}

func clone(s api.Square) api.Square {
	return cells(s.Side, slices.Clone(s.Cells)...)
}

// table has in each place what is told of it.
func table(n int, of func(i, j int) int) api.Square {
	out := cells(n)
	for i := range n {
		for j := range n {
			out.Cells = append(out.Cells, of(i, j))
		}
	}
	return out
}

// numbers gives numbers below their bound that are strewn, and the same ones each time.
func numbers(start int) func(bound int) int {
	state := uint64(start)*0x9e3779b97f4a7c15 + 12345
	return func(bound int) int {
		state = state*6364136223846793005 + 1442695040888963407
		return int(state>>33) % bound
	}
}

// strewnOrder has the numbers below n in some order.
func strewnOrder(n int, next func(int) int) []int {
	out := make([]int, n)
	for i := range n {
		j := next(i + 1)
		out[i], out[j] = out[j], i
	}
	return out
}

// strewnSigns has n numbers that are 1 or -1.
func strewnSigns(n int, next func(int) int) []int {
	out := make([]int, n)
	for i := range out {
		out[i] = 2*next(2) - 1
	}
	return out
}

// mixed has rows and columns in another order, some of them times -1: this keeps what a Hadamard matrix is.
func mixed(s api.Square, start int) api.Square {
	next, was := numbers(start), rowsOf(s)
	rows, columns := strewnOrder(s.Side, next), strewnOrder(s.Side, next)
	across, down := strewnSigns(s.Side, next), strewnSigns(s.Side, next)
	return table(s.Side, func(i, j int) int { return was[rows[i]][columns[j]] * across[i] * down[j] })
}

// turned has columns for rows.
func turned(s api.Square) api.Square {
	was := rowsOf(s)
	return table(s.Side, func(i, j int) int { return was[j][i] })
}

func times(x int, row []int) []int {
	var out []int
	for _, y := range row {
		out = append(out, x*y)
	}
	return out
}

// beside has the first, with the second to its right; below, the first again, with the second times -1.
func beside(a, b api.Square) api.Square {
	one, other := rowsOf(a), rowsOf(b)
	var up, down [][]int
	for i := range one {
		up = append(up, slices.Concat(one[i], other[i]))
		down = append(down, slices.Concat(one[i], times(-1, other[i])))
	}
	return square(slices.Concat(up, down))
}

// doubled is Sylvester's way from one of his matrices to the next.
func doubled(times int) api.Square {
	out := cells(1, 1)
	for range times {
		out = beside(out, out)
	}
	return out
}

// isSquare looks at all numbers but 0 modulo p; x may be below 0.
func isSquare(x, p int) bool {
	for y := 1; y < p; y++ {
		if (y*y-x)%p == 0 {
			return true
		}
	}
	return false
}

// paley goes by H2, rule by rule; the rules that are said last are laid down first.
func paley(p int) api.Square {
	rows := make([][]int, p+1)
	for i := range rows {
		rows[i] = make([]int, p+1)
		for j := range rows[i] {
			rows[i][j] = -1
			if isSquare(j-i, p) {
				rows[i][j] = 1
			}
		}
	}
	for i := range rows {
		rows[i][i] = 1
	}
	for i := range rows {
		rows[i][0] = -1
	}
	for j := range rows[0] {
		rows[0][j] = 1
	}
	return square(rows)
}

// williamson lays four squares of n rows, each of which is a row that goes round, into one of 4 n rows.
func williamson(a, b, c, d []int) api.Square {
	n := len(a)
	return table(4*n, func(i, j int) int {
		places := [4][4][]int{
			{a, b, c, d},
			{times(-1, b), a, times(-1, d), c},
			{times(-1, c), d, a, times(-1, b)},
			{times(-1, d), times(-1, c), b, a},
		}
		return places[i/n][j/n][(j%n-i%n+n)%n]
	})
}

// isPrime counts divisors.
func isPrime(p int) bool {
	divisors := 0
	for d := 1; d <= p; d++ {
		if p%d == 0 {
			divisors++
		}
	}
	return divisors == 2
}

// wrongWith goes by the words of H1.
func wrongWith(s api.Square) api.Errno {
	if s.Side < 1 || s.Side > 24 {
		return api.ErrRange
	}
	if len(s.Cells) != s.Side*s.Side {
		return api.ErrShape
	}
	for _, x := range s.Cells {
		if x != 1 && x != -1 {
			return api.ErrRange
		}
	}
	rows := rowsOf(s)
	for i := range rows {
		for j := range rows {
			if i != j && together(rows[i], rows[j]) != 0 {
				return api.ErrNone
			}
		}
	}
	return api.OK
}

// together is the sum of the products of what stands in one column.
func together(a, b []int) int {
	out := 0
	for i := range a {
		out += a[i] * b[i]
	}
	return out
}

// product goes by H3: cell by cell of the first one, the second is laid down.
func product(a, b api.Square) api.Square {
	one, other := rowsOf(a), rowsOf(b)
	out := rowsOf(table(a.Side*b.Side, func(int, int) int { return 0 }))
	for i := range one {
		for j := range one {
			for k := range other {
				copy(out[i*b.Side+k][j*b.Side:], times(one[i][j], other[k]))
			}
		}
	}
	return square(out)
}

// even goes by H3, in two steps.
func even(s api.Square) api.Square {
	rows := rowsOf(s)
	for i, row := range rows {
		rows[i] = times(row[0], row)
	}
	columns := rowsOf(turned(square(rows)))
	for j, column := range columns {
		columns[j] = times(column[0], column)
	}
	return turned(square(columns))
}

func excess(s api.Square) int {
	out := 0
	for _, row := range rowsOf(s) {
		for _, x := range row {
			out += x
		}
	}
	return out
}

// blocks goes by H3.
func blocks(s api.Square) api.Design {
	out := api.Design{Points: s.Side - 1}
	for _, row := range rowsOf(even(s))[1:] {
		var block []int
		for point, x := range row[1:] {
			if x == 1 {
				block = append(block, point)
			}
		}
		out.Blocks = append(out.Blocks, block)
	}
	return out
}

// smallOnes are all Hadamard matrices of a side of at most 4, found by trying all.
func smallOnes() []api.Square {
	var out []api.Square
	for side := 1; side <= 4; side++ {
		for s := range allSigns(side) {
			if wrongWith(s) == api.OK {
				out = append(out, s)
			}
		}
	}
	return out
}

// allSigns goes through all squares of signs.
func allSigns(side int) func(func(api.Square) bool) {
	return func(yield func(api.Square) bool) {
		for bits := range 1 << (side * side) {
			if !yield(table(side, func(i, j int) int { return 1 - bits>>(i*side+j)&1*2 })) {
				return
			}
		}
	}
}

// greatOnes are Hadamard matrices of each side from 8 to 24 that has one, made in several ways, and these otherwise.
func greatOnes() []api.Square {
	eight, twelve := doubled(3), paley(11)
	out := []api.Square{
		eight, paley(7), doubled(4), twelve, paley(19), paley(23),
		williamson([]int{1}, []int{1}, []int{1}, []int{-1}),
		williamson([]int{1, 1, 1}, []int{1, -1, -1}, []int{1, -1, -1}, []int{1, -1, -1}),
		williamson([]int{1, -1, -1, -1, -1}, []int{1, -1, -1, -1, -1}, []int{1, 1, -1, -1, 1}, []int{1, -1, 1, 1, -1}),
		beside(twelve, twelve),
	}
	for start := range 4 {
		out = append(out, beside(eight, mixed(eight, start)), beside(mixed(twelve, start), paley(11)))
	}
	for start, s := range out {
		out = append(out, mixed(s, start), turned(mixed(s, start+100)))
	}
	return out
}

// some are Hadamard matrices of all sides.
func some() []api.Square {
	out := greatOnes()
	for i, s := range smallOnes() {
		if s.Side < 4 || i%37 == 0 {
			out = append(out, s)
		}
	}
	return out
}

func name(call string, told ...any) string {
	return call + " of " + fmt.Sprint(told...)
}

func wantError(t *testing.T, call string, e, want api.Errno) {
	t.Helper()
	if e != want {
		t.Errorf("%s: got error %d, want %d", call, e, want)
	}
}

func wantNumber(t *testing.T, call string, got int, e api.Errno, want int, wantError api.Errno) {
	t.Helper()
	if got != want || e != wantError {
		t.Errorf("%s: got %d, error %d; want %d, error %d", call, got, e, want, wantError)
	}
}

func same(a, b api.Square) bool {
	return a.Side == b.Side && slices.Equal(a.Cells, b.Cells)
}

// wantSquare has nothing beside an error.
func wantSquare(t *testing.T, call string, got api.Square, e api.Errno, want api.Square, wantError api.Errno) {
	t.Helper()
	if !same(got, want) || e != wantError {
		t.Errorf("%s: got %v, error %d; want %v, error %d", call, got, e, want, wantError)
	}
}

// wantDesign has nothing beside an error.
func wantDesign(t *testing.T, call string, got api.Design, e api.Errno, want api.Design, wantError api.Errno) {
	t.Helper()
	if got.Points != want.Points || !slices.EqualFunc(got.Blocks, want.Blocks, slices.Equal) || e != wantError {
		t.Errorf("%s: got %v, error %d; want %v, error %d", call, got, e, want, wantError)
	}
}
