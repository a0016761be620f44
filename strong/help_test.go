package strong_test

import (
	"fmt"
	"slices"
	"testing"

	"parterre/api"
	"parterre/field"
)

// The helpers here go by the words of the document, by lists of their own and by trying all, so that a fault of the package is no fault of theirs.

func cells(side int, cells ...int) api.Square {
	return api.Square{Side: side, Cells: cells}
}

func clone(s api.Square) api.Square {
	return cells(s.Side, slices.Clone(s.Cells)...)
}

// instead has another number in one cell.
func instead(s api.Square, place, x int) api.Square {
	out := clone(s)
	out.Cells[place] = x
	return out
}

// drawn joins what is told to be joined; both ways round are asked, and each place with itself.
func drawn(n int, joined func(a, b int) bool) api.Square {
	out := cells(n)
	for a := range n {
		for b := range n {
			x := 0
			if joined(a, b) {
				x = 1
			}
			out.Cells = append(out.Cells, x)
		}
	}
	return out
}

// of joins the pairs that are given.
func of(n int, pairs ...[2]int) api.Square {
	return drawn(n, func(a, b int) bool {
		return slices.Contains(pairs, [2]int{a, b}) || slices.Contains(pairs, [2]int{b, a})
	})
}

// cliques are some places each, all of which are joined.
func cliques(many, size int) api.Square {
	return drawn(many*size, func(a, b int) bool { return a != b && a/size == b/size })
}

func complete(n int) api.Square { return cliques(1, n) }

func empty(n int) api.Square { return cliques(n, 1) }

// apart has what cliques has not.
func apart(many, size int) api.Square {
	return drawn(many*size, func(a, b int) bool { return a/size != b/size })
}

// round joins, in a ring of n, what is one of these steps apart, either way round.
func round(n int, steps ...int) api.Square {
	return drawn(n, func(a, b int) bool {
		return slices.Contains(steps, (b-a+n)%n) || slices.Contains(steps, (a-b+n)%n)
	})
}

// windmill has triangles that have one place, the last one, in common.
func windmill(sails int) api.Square {
	last := 2 * sails
	return drawn(last+1, func(a, b int) bool {
		return a != b && (a == last || b == last || a/2 == b/2)
	})
}

// clebsch joins words of four bits that part in one bit, or in all.
func clebsch() api.Square {
	return drawn(16, func(a, b int) bool { return slices.Contains([]int{1, 2, 4, 8, 15}, a^b) })
}

// shrikhande joins what is a step apart on a torus of 16 places: across, down, or both.
func shrikhande() api.Square {
	return drawn(16, func(a, b int) bool {
		across, down := (a%4-b%4+4)%4, (a/4-b/4+4)%4
		return slices.Contains([][2]int{{0, 1}, {0, 3}, {1, 0}, {3, 0}, {1, 1}, {3, 3}}, [2]int{across, down})
	})
}

// lattice joins the cells of a table that are in one row or in one column.
func lattice(n int) api.Square {
	return drawn(n*n, func(a, b int) bool { return a != b && (a/n == b/n || a%n == b%n) })
}

// petersen has a ring of five, a star of five, and spokes.
func petersen() api.Square {
	return of(10,
		[2]int{0, 1}, [2]int{1, 2}, [2]int{2, 3}, [2]int{3, 4}, [2]int{4, 0},
		[2]int{5, 7}, [2]int{7, 9}, [2]int{9, 6}, [2]int{6, 8}, [2]int{8, 5},
		[2]int{0, 5}, [2]int{1, 6}, [2]int{2, 7}, [2]int{3, 8}, [2]int{4, 9})
}

// some are graphs of all sizes; strong ones, and others.
func some() []api.Square {
	out := []api.Square{
		petersen(), clebsch(), shrikhande(), lattice(2), lattice(3), lattice(4), round(5, 1), round(13, 1, 3, 4), round(17, 1, 2, 4, 8),
		of(4, [2]int{0, 1}), of(5, [2]int{3, 4}, [2]int{2, 4}, [2]int{1, 4}, [2]int{0, 4}), round(24, 1, 12), round(8, 1, 4), drawn(24, func(a, b int) bool { return a%2 != b%2 && a+1 != b && b+1 != a }),
	}
	for n := 1; n <= 24; n++ {
		out = append(out, complete(n), empty(n))
		if n >= 3 {
			out = append(out, round(n, 1))
		}
		if n <= 11 {
			out = append(out, windmill(n))
		}
		for size := 2; size < n; size++ {
			if n%size == 0 {
				out = append(out, cliques(n/size, size), apart(n/size, size))
			}
		}
	}
	for start, g := range out {
		out = append(out, renamed(g, strewnOrder(g.Side, numbers(start))))
	}
	return append(out, strewn()...)
}

// strewn are graphs of each size that are joined as chance would have it.
func strewn() []api.Square {
	var out []api.Square
	for n := 1; n <= 24; n++ {
		next := numbers(n)
		for range 6 {
			g := empty(n)
			for a := range n {
				for b := range a {
					x := next(2)
					g.Cells[a*n+b], g.Cells[b*n+a] = x, x
				}
			}
			out = append(out, g)
		}
	}
	return out
}

// allGraphs goes through all of n places.
func allGraphs(n int) func(func(api.Square) bool) {
	return func(yield func(api.Square) bool) {
		for bits := range 1 << (n * (n - 1) / 2) {
			g, left := empty(n), bits
			for a := range n {
				for b := range a {
					g.Cells[a*n+b], g.Cells[b*n+a] = left&1, left&1
					left >>= 1
				}
			}
			if !yield(g) {
				return
			}
		}
	}
}

// numbers gives numbers below their bound that are strewn, and the same ones each time.
func numbers(start int) func(bound int) int {
	state := uint64(start)*0x9e3779b97f4a7c15 + 12345
	return func(bound int) int {
		state = state*6364136223846793005 + 1442695040888963407
		return int(state>>33) % bound
	}
}

// strewnOrder has the numbers below n in some order.
func strewnOrder(n int, next func(int) int) []int {
	out := make([]int, n)
	for i := range n {
		j := next(i + 1)
		out[i], out[j] = out[j], i
	}
	return out
}

// renamed has the place order[a] where a was.
func renamed(g api.Square, order []int) api.Square {
	out := clone(g)
	for a := range g.Side {
		for b := range g.Side {
			out.Cells[order[a]*g.Side+order[b]] = g.Cells[a*g.Side+b]
		}
	}
	return out
}

// rowsOf cuts a square into rows of their own.
func rowsOf(s api.Square) [][]int {
	var out [][]int
	for row := range slices.Chunk(s.Cells, s.Side) {
		out = append(out, slices.Clone(row))
	}
	return out
}

// wrongWith goes by the words of G1.
func wrongWith(s api.Square) api.Errno {
	if s.Side < 1 || s.Side > 24 {
		return api.ErrRange
	}
	if len(s.Cells) != s.Side*s.Side {
		return api.ErrShape
	}
	for _, x := range s.Cells {
		if x != 0 && x != 1 {
			return api.ErrRange
		}
	}
	rows := rowsOf(s)
	for a := range rows {
		for b := range rows {
			if a == b && rows[a][b] == 1 || rows[a][b] != rows[b][a] {
				return api.ErrNone
			}
		}
	}
	return api.OK
}

// commonOf lists the places to which both are joined.
func commonOf(rows [][]int, a, b int) []int {
	var out []int
	for place := range rows {
		if rows[a][place] == 1 && rows[b][place] == 1 {
			out = append(out, place)
		}
	}
	return out
}

// alike tells the number that all are, 0 if there are none, and whether they are all so.
func alike(list []int) (int, bool) {
	list = slices.Compact(slices.Sorted(slices.Values(list)))
	if len(list) == 0 {
		return 0, true
	}
	return list[0], len(list) == 1
}

// numbersOf goes by the words of G2.
func numbersOf(s api.Square) (api.Strong, api.Errno) {
	rows := rowsOf(s)
	var degrees, joined, others []int
	for a := range rows {
		degrees = append(degrees, len(commonOf(rows, a, a)))
		for b := range rows {
			if a != b && rows[a][b] == 1 {
				joined = append(joined, len(commonOf(rows, a, b)))
			} else if a != b {
				others = append(others, len(commonOf(rows, a, b)))
			}
		}
	}
	degree, one := alike(degrees)
	near, two := alike(joined)
	far, three := alike(others)
	if !one || !two || !three {
		return api.Strong{}, api.ErrNone
	}
	return api.Strong{Places: s.Side, Degree: degree, Near: near, Far: far}, api.OK
}

// otherOf goes by the words of G2.
func otherOf(s api.Square) api.Square {
	rows := rowsOf(s)
	return drawn(s.Side, func(a, b int) bool { return a != b && rows[a][b] == 0 })
}

// friendOf goes by the words of G2.
func friendOf(s api.Square) (int, api.Errno) {
	rows := rowsOf(s)
	for a := range rows {
		for b := range rows {
			if a != b && len(commonOf(rows, a, b)) != 1 {
				return 0, api.ErrNone
			}
		}
	}
	for place, row := range rows {
		row[place] = 1
		if !slices.Contains(row, 0) {
			return place, api.OK
		}
	}
	panic("Erdos, Renyi and Sos say that this cannot be")
}

func power(base, n int) int {
	out := 1
	for range n {
		out *= base
	}
	return out
}

func orderOf(f api.Field) int { return power(f.Prime, f.Degree) }

// allFields has each field of up to 64 elements, with each polynomial that is irreducible.
func allFields() []api.Field {
	var out []api.Field
	for p := 2; p <= 64; p++ {
		for k := 1; power(p, k) <= 64; k++ {
			for low := range power(p, k) {
				f := api.Field{Prime: p, Degree: k}
				for place := range k {
					f.Low = append(f.Low, low/power(p, place)%p)
				}
				if field.Check(f) == api.OK {
					out = append(out, f)
				}
			}
		}
	}
	return out
}

// paleyOf goes by the words of G3: each element is multiplied by itself, and added.
func paleyOf(f api.Field) api.Square {
	return drawn(orderOf(f), func(a, b int) bool {
		for x := range orderOf(f) {
			square, _ := field.Mul(f, x, x)
			if sum, _ := field.Add(f, a, square); square != 0 && sum == b {
				return true
			}
		}
		return false
	})
}

// triangleOf goes by the words of G3.
func triangleOf(n int) api.Square {
	var pairs [][]int
	for lower := range n {
		for greater := range n {
			if lower < greater {
				pairs = append(pairs, []int{lower, greater})
			}
		}
	}
	return drawn(len(pairs), func(a, b int) bool {
		return a != b && slices.ContainsFunc(pairs[a], func(x int) bool { return slices.Contains(pairs[b], x) })
	})
}

// latinOf goes by the words of G3.
func latinOf(s api.Square) api.Square {
	type cell struct{ row, column, number int }
	var list []cell
	for i, row := range rowsOf(s) {
		for j, x := range row {
			list = append(list, cell{i, j, x})
		}
	}
	return drawn(len(list), func(a, b int) bool {
		one, other := list[a], list[b]
		return one != other && (one.row == other.row || one.column == other.column || one.number == other.number)
	})
}

// latins has all Latin squares of a side, filled cell by cell.
func latins(side int) []api.Square {
	var out []api.Square
	var fill func(done []int)
	fill = func(done []int) {
		at := len(done)
		if at == side*side {
			out = append(out, cells(side, slices.Clone(done)...))
			return
		}
		for x := range side {
			free := true
			for before, y := range done {
				if y == x && (before/side == at/side || before%side == at%side) {
					free = false
				}
			}
			if free {
				fill(append(slices.Clone(done), x))
			}
		}
	}
	fill(nil)
	return out
}

// fitsBy goes by the words of G4: r, and what comes of it, are looked for.
func fitsBy(s api.Strong) (bool, api.Errno) {
	v, k, l, m := s.Places, s.Degree, s.Near, s.Far
	if v < 2 || v > 1000 || k < 1 || k > v-1 || l < 0 || l > v || m < 0 || m > v {
		return false, api.ErrRange
	}
	if k*(k-l-1) != (v-k-1)*m {
		return false, api.OK
	}
	d, sum := (l-m)*(l-m)+4*(k-m), 2*k+(v-1)*(l-m)
	if sum == 0 && v%2 == 1 {
		return true, api.OK
	}
	for r := 1; r <= 2*v; r++ {
		for x := -(v - 1); x <= v-1 && r*r == d; x++ {
			if x*r == sum && (x%2 != 0) == ((v-1)%2 != 0) {
				return true, api.OK
			}
		}
	}
	return false, api.OK
}

func name(call string, told ...any) string {
	return call + " of " + fmt.Sprint(told...)
}

func wantError(t *testing.T, call string, e, want api.Errno) {
	t.Helper()
	if e != want {
		t.Errorf("%s: got error %d, want %d", call, e, want)
	}
}

// want holds what can be compared, and the error beside it.
func want[T comparable](t *testing.T, call string, got T, e api.Errno, want T, wantError api.Errno) {
	t.Helper()
	if got != want || e != wantError {
		t.Errorf("%s: got %v, error %d; want %v, error %d", call, got, e, want, wantError)
	}
}

func same(a, b api.Square) bool {
	return a.Side == b.Side && slices.Equal(a.Cells, b.Cells)
}

// wantSquare has nothing beside an error.
func wantSquare(t *testing.T, call string, got api.Square, e api.Errno, want api.Square, wantError api.Errno) {
	t.Helper()
	if !same(got, want) || e != wantError {
		t.Errorf("%s: got %v, error %d; want %v, error %d", call, got, e, want, wantError)
	}
}
