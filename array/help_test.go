package array_test

import (
	"fmt"
	"math/big"
	"slices"
	"testing"

	"parterre/api"
)

// The helpers here go by the words of the document, by tables and by trying all, so that a fault of the package is no fault of theirs.

// numbers gives numbers below their bound that are strewn, and the same ones each time.
func numbers(start int) func(bound int) int {
	state := uint64(start)*0x9e3779b97f4a7c15 + 12345
	return func(bound int) int {
		state = state*6364136223846793005 + 1442695040888963407
		return int(state>>33) % bound
	}
}

func power(a, n int) int {
	out := 1
	for range n {
		out *= a
	}
	return out
}

// cloned has rows of their own.
func cloned(rows [][]int) [][]int {
	var out [][]int
	for _, row := range rows {
		out = append(out, slices.Clone(row))
	}
	return out
}

// instead has another number in one place of one run.
func instead(runs [][]int, run, column, x int) [][]int {
	out := cloned(runs)
	out[run][column] = x
	return out
}

// lists has all lists of so many numbers below s, in order.
func lists(s, long int) [][]int {
	out := [][]int{nil}
	for range long {
		var more [][]int
		for _, list := range out {
			for x := range s {
				more = append(more, append(slices.Clone(list), x))
			}
		}
		out = more
	}
	return out
}

// choices has all rising lists of t of the numbers below n.
func choices(n, t int) [][]int {
	var out [][]int
	for _, list := range lists(2, n) {
		var chosen []int
		for i, x := range list {
			if x == 1 {
				chosen = append(chosen, i)
			}
		}
		if len(chosen) == t {
			out = append(out, chosen)
		}
	}
	return out
}

// texts has numbers as text: "012" is 0, 1, 2.
func texts(rows ...string) [][]int {
	var out [][]int
	for _, row := range rows {
		var list []int
		for _, r := range row {
			list = append(list, int(r-'0'))
		}
		out = append(out, list)
	}
	return out
}

// wrongWith goes by the words of A1.
func wrongWith(s int, runs [][]int) api.Errno {
	if s < 2 || s > 64 {
		return api.ErrRange
	}
	if len(runs) == 0 {
		return api.ErrShape
	}
	if len(runs) > 128 {
		return api.ErrFull
	}
	first := len(runs[0])
	for _, run := range runs {
		if len(run) != first || first == 0 || first > 8 {
			return api.ErrShape
		}
		for _, x := range run {
			if x < 0 || x > s-1 {
				return api.ErrRange
			}
		}
	}
	return api.OK
}

// inRuns is in how many runs a list stands, in some columns.
func inRuns(runs [][]int, columns, list []int) int {
	many := 0
	for _, run := range runs {
		stands := true
		for i, column := range columns {
			stands = stands && run[column] == list[i]
		}
		if stands {
			many++
		}
	}
	return many
}

// alike goes by the words of A2: does each list stand in as many runs, in each choice of t columns? Where there are more lists than runs, some stand in none, and some do not.
func alike(s int, runs [][]int, t int) bool {
	if power(s, t) > len(runs) {
		return false
	}
	all := lists(s, t)
	for _, columns := range choices(len(runs[0]), t) {
		for _, list := range all {
			if inRuns(runs, columns, list) != inRuns(runs, columns, all[0]) {
				return false
			}
		}
	}
	return true
}

// strengthOf asks for all t from the greatest down, so that nothing hangs on what holds for fewer.
func strengthOf(s int, runs [][]int) int {
	for t := len(runs[0]); t > 0; t-- {
		if alike(s, runs, t) {
			return t
		}
	}
	return 0
}

// dropOf goes by the words of A2.
func dropOf(runs [][]int, column int) [][]int {
	var out [][]int
	for _, run := range runs {
		var rest []int
		for i, x := range run {
			if i != column {
				rest = append(rest, x)
			}
		}
		out = append(out, rest)
	}
	return out
}

// takeOf goes by the words of A2.
func takeOf(runs [][]int, column, level int) ([][]int, api.Errno) {
	var some [][]int
	for _, run := range runs {
		if run[column] == level {
			some = append(some, run)
		}
	}
	if len(some) == 0 {
		return nil, api.ErrNone
	}
	return dropOf(some, column), api.OK
}

// raoOf goes by the words of A3, in numbers that have no end.
func raoOf(k, s, t int) (int, api.Errno) {
	if k < 1 || k > 30 || s < 2 || s > 64 || t < 0 || t > k {
		return 0, api.ErrRange
	}
	term := func(exponent, n, chosen int) *big.Int {
		out := new(big.Int).Exp(big.NewInt(int64(s-1)), big.NewInt(int64(exponent)), nil)
		return out.Mul(out, new(big.Int).Binomial(int64(n), int64(chosen)))
	}
	u, bound := t/2, new(big.Int)
	for i := 0; i <= u; i++ {
		bound.Add(bound, term(i, k, i))
	}
	if t%2 == 1 {
		bound.Add(bound, term(u+1, k-1, u))
	}
	if bound.Cmp(new(big.Int).Exp(big.NewInt(10), big.NewInt(18), nil)) > 0 {
		return 0, api.ErrFull
	}
	return int(bound.Int64()), api.OK
}

// squaresOf goes by the words of A3, for squares of which nothing is wrong.
func squaresOf(list []api.Square) [][]int {
	var out [][]int
	for i := range list[0].Side {
		for j := range list[0].Side {
			run := []int{i, j}
			for _, s := range list {
				run = append(run, s.Cells[i*s.Side+j])
			}
			out = append(out, run)
		}
	}
	return out
}

func square(side int, cells ...int) api.Square {
	return api.Square{Side: side, Cells: cells}
}

// cyclic is (i + a j) modulo the side, a and the side having no divisor in common.
func cyclic(side, a int) api.Square {
	out := square(side)
	for i := range side {
		for j := range side {
			out.Cells = append(out.Cells, (i+a*j)%side)
		}
	}
	return out
}

// mixed has rows, columns and numbers in another order.
func mixed(s api.Square, rows, columns, names []int) api.Square {
	out := square(s.Side, make([]int, len(s.Cells))...)
	for i := range s.Side {
		for j := range s.Side {
			out.Cells[rows[i]*s.Side+columns[j]] = names[s.Cells[i*s.Side+j]]
		}
	}
	return out
}

// strewnOrder has the numbers below n in some order.
func strewnOrder(n int, next func(int) int) []int {
	out := make([]int, n)
	for i := range n {
		j := next(i + 1)
		out[i], out[j] = out[j], i
	}
	return out
}

// latins has all Latin squares of a side, filled cell by cell.
func latins(side int) []api.Square {
	var out []api.Square
	var fill func(done []int)
	fill = func(done []int) {
		at := len(done)
		if at == side*side {
			out = append(out, square(side, slices.Clone(done)...))
			return
		}
		for x := range side {
			free := true
			for before, y := range done {
				if y == x && (before/side == at/side || before%side == at%side) {
					free = false
				}
			}
			if free {
				fill(append(slices.Clone(done), x))
			}
		}
	}
	fill(nil)
	return out
}

// orthogonal goes by the words of chapter 6.
func orthogonal(a, b api.Square) bool {
	seen := map[[2]int]int{}
	for i := range a.Cells {
		seen[[2]int{a.Cells[i], b.Cells[i]}]++
	}
	return len(seen) == len(a.Cells)
}

// known are runs that books tell, or that are made by hand, and their strength.
type known struct {
	name     string
	s        int
	runs     [][]int
	strength int
}

// plackett has twelve runs: a row that is turned, and one of 0s; the first eight columns of eleven.
func plackett() [][]int {
	row := texts("11011100010")[0]
	out := [][]int{make([]int, 8)}
	for turn := range 11 {
		var run []int
		for column := range 8 {
			run = append(run, row[(column+turn)%11])
		}
		out = append(out, run)
	}
	return out
}

// bush has, for each polynomial of numbers modulo a prime p, of a degree below t, what it is at 0, 1, .., and its highest number: no two polynomials are alike in t places.
func bush(p, t, columns int) [][]int {
	var out [][]int
	for _, list := range lists(p, t) {
		var run []int
		for x := range columns {
			if x == p {
				run = append(run, list[t-1])
				continue
			}
			y := 0
			for i, a := range list {
				y += a * power(x, i)
			}
			run = append(run, y%p)
		}
		out = append(out, run)
	}
	return out
}

// even has all lists of bits of which an even number are 1.
func even(columns int) [][]int {
	var out [][]int
	for _, list := range lists(2, columns-1) {
		ones := 0
		for _, x := range list {
			ones += x
		}
		out = append(out, append(list, ones%2))
	}
	return out
}

// reed has the values at all three bits of each sum of some of 1 and these bits: sixteen runs of eight.
func reed() [][]int {
	var out [][]int
	for _, list := range lists(2, 4) {
		var run []int
		for _, bits := range lists(2, 3) {
			run = append(run, (list[0]+list[1]*bits[0]+list[2]*bits[1]+list[3]*bits[2])%2)
		}
		out = append(out, run)
	}
	return out
}

// repeated has each of the runs so many times.
func repeated(runs [][]int, times int) [][]int {
	return cloned(slices.Repeat(runs, times))
}

func books() []known {
	out := []known{
		{"the chapter's", 2, texts("000", "011", "101", "110"), 2},
		{"Plackett and Burman", 2, plackett(), 2},
		{"Reed and Muller", 2, reed(), 3},
		{"Taguchi's eighteen", 3, texts(
			"0000000", "0111111", "0222222", "1001122", "1112200", "1220011", "2010212", "2121020", "2202101",
			"0022110", "0100221", "0211002", "1012021", "1120102", "1201210", "2021201", "2102012", "2210120"), 2},
		{"four runs, two of them alike", 2, texts("000", "000", "111", "111"), 1},
		{"columns that are one", 3, texts("00", "11", "22"), 1},
		{"columns that are one, twice", 3, texts("00", "11", "22", "00", "11", "22"), 1},
		{"one run", 2, texts("0"), 0},
		{"one run of eight", 64, [][]int{{0, 63, 1, 62, 5, 5, 5, 5}}, 0},
		{"one column", 2, texts("1", "0"), 1},
		{"one column, as many runs as may be", 2, repeated(texts("1", "0"), 64), 1},
		{"one column, one run too many", 2, texts("1", "0", "1"), 0},
		{"a level that is not there", 3, texts("0", "1", "0", "1"), 0},
		{"a level that is not there, as many runs as share out", 3, texts("0", "1", "0", "1", "0", "1"), 0},
		{"a pair that is not there", 2, texts("00", "01", "10", "10"), 0},
		{"one column of three is not so", 2, texts("000", "010", "101", "110"), 0},
		{"two columns of three alone are not so", 2, texts("000", "010", "101", "111"), 1},
		{"sixty-four levels", 64, lists(64, 1), 1},
		{"sixty-four levels, twice", 64, repeated(lists(64, 1), 2), 1},
		{"sixty-four levels, but one twice for another", 64, instead(lists(64, 1), 63, 0, 0), 0},
		{"eleven levels, each two", 11, lists(11, 2), 2},
	}
	for columns := 1; columns <= 7; columns++ {
		out = append(out, known{fmt.Sprint("all of bits, ", columns), 2, lists(2, columns), columns})
	}
	for columns := 2; columns <= 8; columns++ {
		out = append(out, known{fmt.Sprint("even ones, ", columns), 2, even(columns), columns - 1})
	}
	for columns := 2; columns <= 7; columns++ {
		out = append(out, known{fmt.Sprint("even ones, one of them otherwise, ", columns), 2, instead(even(columns), 0, 0, 1), 0})
	}
	for _, p := range []int{2, 3, 5, 7, 11} {
		for t := 1; power(p, t) <= 128; t++ {
			for columns := t; columns <= min(p+1, 8); columns++ {
				out = append(out, known{fmt.Sprint("Bush, ", p, t, columns), p, bush(p, t, columns), t})
			}
		}
	}
	return out
}

// otherwise has runs, columns, and the numbers of each column in another order: the strength stays.
func otherwise(s int, runs [][]int, next func(int) int) [][]int {
	width := len(runs[0])
	rows, columns := strewnOrder(len(runs), next), strewnOrder(width, next)
	out := cloned(runs)
	for column := range width {
		names := strewnOrder(s, next)
		for i, run := range runs {
			out[rows[i]][columns[column]] = names[run[column]]
		}
	}
	return out
}

// strewn are runs as chance would have them.
func strewn(s, many, width int, next func(int) int) [][]int {
	out := make([][]int, many)
	for i := range out {
		for range width {
			out[i] = append(out[i], next(s))
		}
	}
	return out
}

// some are runs with and without strength, of many sizes.
func some() []known {
	var out []known
	for start, k := range books() {
		next := numbers(start)
		out = append(out, k)
		for _, times := range []int{2, 3} {
			if times*len(k.runs) <= 128 {
				out = append(out, known{k.name + ", repeated", k.s, repeated(k.runs, times), k.strength})
			}
		}
		for range 2 {
			out = append(out, known{k.name + ", otherwise", k.s, otherwise(k.s, k.runs, next), k.strength})
		}
		for range 3 {
			runs := instead(k.runs, next(len(k.runs)), next(len(k.runs[0])), next(k.s))
			out = append(out, known{k.name + ", one number otherwise", k.s, runs, strengthOf(k.s, runs)})
		}
	}
	next := numbers(17)
	for i := range 400 {
		s, many, width := 2+next(63), 1+next(128), 1+next(8)
		if next(2) == 0 {
			s, many = 2+next(3), 1+next(16)
		}
		runs := strewn(s, many, width, next)
		out = append(out, known{fmt.Sprint("strewn ", i), s, runs, strengthOf(s, runs)})
	}
	return out
}

func name(call string, told ...any) string {
	return call + " of " + fmt.Sprint(told...)
}

func wantError(t *testing.T, call string, e, want api.Errno) {
	t.Helper()
	if e != want {
		t.Errorf("%s: got error %d, want %d", call, e, want)
	}
}

func wantNumber(t *testing.T, call string, got int, e api.Errno, want int, wantError api.Errno) {
	t.Helper()
	if got != want || e != wantError {
		t.Errorf("%s: got %d, error %d; want %d, error %d", call, got, e, want, wantError)
	}
}

func sameRows(a, b [][]int) bool {
	return slices.EqualFunc(a, b, slices.Equal[[]int])
}

// wantRows has no list beside an error.
func wantRows(t *testing.T, call string, got [][]int, e api.Errno, want [][]int, wantError api.Errno) {
	t.Helper()
	if !sameRows(got, want) || e != wantError {
		t.Errorf("%s: got %v, error %d; want %v, error %d", call, got, e, want, wantError)
	}
}
