package quasi_test

import (
	"fmt"
	"slices"
	"testing"

	"parterre/api"
)

// The helpers here go by the words of the document, and by other ways than the package, so that a fault of the one is no fault of the other.

// table fills a square.
func table(n int, of func(x, y int) int) api.Square {
	s := api.Square{Side: n}
	for x := range n {
		for y := range n {
			s.Cells = append(s.Cells, of(x, y))
		}
	}
	return s
}

func at(s api.Square, x, y int) int { return s.Cells[x*s.Side+y] }

func cyclic(n int) api.Square {
	return table(n, func(x, y int) int { return (x + y) % n })
}

// minus has a unit on the right, but, above 2 elements, none on the left.
func minus(n int) api.Square {
	return table(n, func(x, y int) int { return (x - y + n) % n })
}

// minusFrom has a unit on the left, but, above 2 elements, none on the right.
func minusFrom(n int) api.Square {
	return table(n, func(x, y int) int { return (y - x + n) % n })
}

// bitwise is the group in which each element is its own inverse; n is a power of 2.
func bitwise(n int) api.Square {
	return table(n, func(x, y int) int { return x ^ y })
}

// middle is idempotent, and minds no order; n is odd.
func middle(n int) api.Square {
	return table(n, func(x, y int) int { return (x + y) * ((n + 1) / 2) % n })
}

// mirror is idempotent, and minds the order; n is odd.
func mirror(n int) api.Square {
	return table(n, func(x, y int) int { return (2*x + n - y) % n })
}

// sixth is the group of all permutations of 3 points, which minds the order.
func sixth() api.Square {
	p := permutations(3)
	return table(6, func(i, j int) int {
		both := []int{p[j][p[i][0]], p[j][p[i][1]], p[j][p[i][2]]}
		return slices.IndexFunc(p, func(x []int) bool { return slices.Equal(x, both) })
	})
}

// turns is the group of all that keeps a square: it is turned over, if the third bit of a number is set, and then turned as often as its two lower bits say.
func turns() api.Square {
	return table(8, func(x, y int) int {
		turn := x % 4
		if y >= 4 {
			turn = 4 - turn
		}
		return (turn+y)%4 | (x^y)&4
	})
}

// quaternions are 1, i, j, k and, 4 greater, what is 0 with each of them.
func quaternions() api.Square {
	return table(8, func(x, y int) int {
		a, b := x%4, y%4
		sign := x/4 + y/4
		if a > 0 && b > 0 && (a == b || (b-a+3)%3 == 2) {
			sign++
		}
		return (a ^ b) | sign%2*4
	})
}

// fano has each point as its own square, and else the third point of a line of the plane of 7 points.
func fano() api.Square {
	return table(7, func(x, y int) int {
		if x == y {
			return x
		}
		return ((x + 1) ^ (y + 1)) - 1
	})
}

// rounds has x times what x times y is as y again, and so (x times x) times y as x times (x times y), though above 4 elements it does not associate: x times y is whom y meets in the round in which x meets 0; n is even.
func rounds(n int) api.Square {
	return table(n, func(x, y int) int {
		switch {
		case x == 0 || y == 0:
			return x + y
		case x == y:
			return 0
		}
		return (2*(x-1)+n-y)%(n-1) + 1
	})
}

func over(s api.Square) api.Square {
	return table(s.Side, func(x, y int) int { return at(s, y, x) })
}

// affine is idempotent, of 4 elements; of the field of 4 elements it is made by an element w that is neither 0 nor 1: x times w, and y times w + 1, added up.
func affine() api.Square {
	return table(4, func(x, y int) int { return []int{0, 2, 3, 1}[x] ^ []int{0, 3, 1, 2}[y] })
}

// permutations gives all of n points, in order.
func permutations(n int) [][]int {
	if n == 0 {
		return [][]int{{}}
	}
	var out [][]int
	for first := range n {
		for _, a := range permutations(n - 1) {
			p := []int{first}
			for _, x := range a {
				if x >= first {
					x++
				}
				p = append(p, x)
			}
			out = append(out, p)
		}
	}
	return out
}

// all gives all Latin squares of a side whose first rows, or all, are these, in order by their cells.
func all(n int, rows ...[]int) []api.Square {
	if len(rows) == n {
		return []api.Square{{Side: n, Cells: slices.Concat(rows...)}}
	}
	var out []api.Square
	for _, p := range permutations(n) {
		if !slices.ContainsFunc(rows, func(row []int) bool { return meet(row, p) }) {
			out = append(out, all(n, append(slices.Clone(rows), p)...)...)
		}
	}
	return out
}

// meet: have two rows one number in one place?
func meet(a, b []int) bool {
	for i, x := range a {
		if x == b[i] {
			return true
		}
	}
	return false
}

// small are all Latin squares of up to 4 rows.
func small() []api.Square {
	return slices.Concat(all(1), all(2), all(3), all(4))
}

// loops are all of a side that have 0 as their unit.
func loops(n int) []api.Square {
	return slices.DeleteFunc(all(n, stay(n)), func(s api.Square) bool {
		return slices.ContainsFunc(stay(n), func(x int) bool { return at(s, x, 0) != x })
	})
}

func stay(n int) []int {
	out := make([]int, n)
	for i := range out {
		out[i] = i
	}
	return out
}

// mixed gives a permutation of n points that looks like none: the same one for the same start.
func mixed(n, start int) []int {
	out := stay(n)
	x := uint64(start)*2654435761 + 12345
	for i := n - 1; i > 0; i-- {
		x = x*6364136223846793005 + 1442695040888963407
		j := int(x>>33) % (i + 1)
		out[i], out[j] = out[j], out[i]
	}
	return out
}

// shuffled exchanges rows, columns and numbers, each in its own way.
func shuffled(s api.Square, start int) api.Square {
	rows, columns, numbers := mixed(s.Side, 3*start), mixed(s.Side, 3*start+1), mixed(s.Side, 3*start+2)
	return table(s.Side, func(x, y int) int { return numbers[at(s, rows[x], columns[y])] })
}

// renamed gives each element x the name p of x, wherever it stands.
func renamed(s api.Square, p []int) api.Square {
	out := table(s.Side, func(x, y int) int { return 0 })
	for x := range s.Side {
		for y := range s.Side {
			out.Cells[p[x]*s.Side+p[y]] = p[at(s, x, y)]
		}
	}
	return out
}

// great are some quasigroups of 5 to 8 elements: groups, others of which something is true, and some of which nothing is; with other names, too.
func great() []api.Square {
	out := []api.Square{middle(5), middle(7), mirror(5), mirror(7), fano(), sixth(), turns(), quaternions(), bitwise(8), rounds(6), rounds(8), over(rounds(6)), over(rounds(8))}
	for n := 5; n <= 8; n++ {
		out = append(out, cyclic(n), minus(n), minusFrom(n))
	}
	for i, s := range slices.Clone(out) {
		out = append(out, renamed(s, mixed(s.Side, i)), shuffled(s, i))
	}
	return out
}

// units gives all elements that are one.
func units(s api.Square) []int {
	var out []int
	for x := range s.Side {
		var row, column []int
		for y := range s.Side {
			row = append(row, at(s, x, y))
			column = append(column, at(s, y, x))
		}
		if slices.Equal(row, stay(s.Side)) && slices.Equal(column, stay(s.Side)) {
			out = append(out, x)
		}
	}
	return out
}

// commutes turns the square over.
func commutes(s api.Square) bool {
	return slices.Equal(s.Cells, over(s).Cells)
}

// associates goes by maps: first x, then z on the other side, or the other way round, leads each y to the same.
func associates(s api.Square) bool {
	for x := range s.Side {
		for z := range s.Side {
			var one, other []int
			for y := range s.Side {
				one = append(one, at(s, at(s, x, y), z))
				other = append(other, at(s, x, at(s, y, z)))
			}
			if !slices.Equal(one, other) {
				return false
			}
		}
	}
	return true
}

func idempotent(s api.Square) bool {
	var across []int
	for x := range s.Side {
		across = append(across, at(s, x, x))
	}
	return slices.Equal(across, stay(s.Side))
}

// spread gives the least closed set that has these elements, in order.
func spread(s api.Square, set []int) []int {
	in := map[int]bool{}
	for _, x := range set {
		in[x] = true
	}
	for long := -1; long != len(in); {
		long = len(in)
		for x := range s.Side {
			for y := range s.Side {
				if in[x] && in[y] {
					in[at(s, x, y)] = true
				}
			}
		}
	}
	var out []int
	for x := range s.Side {
		if in[x] {
			out = append(out, x)
		}
	}
	return out
}

// closedSets gives all but the empty one: what sets spread to, each once.
func closedSets(s api.Square) [][]int {
	sets := [][]int{{}}
	for x := range s.Side {
		for _, set := range slices.Clone(sets) {
			sets = append(sets, append(slices.Clone(set), x))
		}
	}
	met := map[string]bool{}
	var out [][]int
	for _, set := range sets[1:] {
		big := spread(s, set)
		if !met[fmt.Sprint(big)] {
			met[fmt.Sprint(big)] = true
			out = append(out, big)
		}
	}
	return out
}

// alike gives all other names that make b of a, in order.
func alike(a, b api.Square) [][]int {
	var out [][]int
	for _, p := range permutations(a.Side) {
		if slices.Equal(renamed(a, p).Cells, b.Cells) {
			out = append(out, p)
		}
	}
	return out
}

func name(call string, s api.Square) string {
	return fmt.Sprintf("%s of side %d, %v", call, s.Side, s.Cells)
}

// wantNumber is for what gives a number and no error.
func wantNumber(t *testing.T, call string, got int, e api.Errno, want int) {
	t.Helper()
	if got != want || e != api.OK {
		t.Errorf("%s: got %d, error %d; want %d", call, got, e, want)
	}
}

// wantNoNumber is for an error, and nothing beside it (P1).
func wantNoNumber(t *testing.T, call string, got int, e, want api.Errno) {
	t.Helper()
	if got != 0 || e != want {
		t.Errorf("%s: got %d, error %d; want error %d", call, got, e, want)
	}
}

// wantTruth is for what is so or not, with no error.
func wantTruth(t *testing.T, call string, got bool, e api.Errno, want bool) {
	t.Helper()
	if got != want || e != api.OK {
		t.Errorf("%s: got %v, error %d; want %v", call, got, e, want)
	}
}

// wantNoTruth is for an error, and nothing beside it (P1).
func wantNoTruth(t *testing.T, call string, got bool, e, want api.Errno) {
	t.Helper()
	if got || e != want {
		t.Errorf("%s: got %v, error %d; want error %d", call, got, e, want)
	}
}

// wantList is for a list and no error.
func wantList(t *testing.T, call string, got []int, e api.Errno, want []int) {
	t.Helper()
	if !slices.Equal(got, want) || e != api.OK {
		t.Errorf("%s: got %v, error %d; want %v", call, got, e, want)
	}
}

// wantNoList is for an error, and nothing beside it (P1).
func wantNoList(t *testing.T, call string, got []int, e, want api.Errno) {
	t.Helper()
	if len(got) != 0 || e != want {
		t.Errorf("%s: got %v, error %d; want error %d", call, got, e, want)
	}
}
