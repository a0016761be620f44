package triple_test

import (
	"fmt"
	"slices"
	"testing"

	"parterre/api"
)

// The helpers here go by the words of the document, by lists of blocks and no tables, so that a fault of the package is no fault of theirs.

// of is a design of n points.
func of(n int, blocks ...[]int) api.Design {
	return api.Design{Points: n, Blocks: blocks}
}

// block has points, which rise.
func block(points ...int) []int {
	out := slices.Clone(points)
	slices.Sort(out)
	return out
}

// ordered puts the blocks into order.
func ordered(d api.Design) api.Design {
	slices.SortFunc(d.Blocks, slices.Compare)
	return d
}

// threes are all blocks of three of n points, in order.
func threes(n int) [][]int {
	var out [][]int
	for x := range n {
		for y := x + 1; y < n; y++ {
			for z := y + 1; z < n; z++ {
				out = append(out, []int{x, y, z})
			}
		}
	}
	return out
}

// moved has blocks and what they become, if the same number is added to each point, modulo n.
func moved(n int, blocks ...[]int) api.Design {
	d := of(n)
	for _, b := range blocks {
		for i := range n {
			d.Blocks = append(d.Blocks, block((b[0]+i)%n, (b[1]+i)%n, (b[2]+i)%n))
		}
	}
	return ordered(d)
}

// binary are the lines of a projective space of n points, which is one less than a power of 2.
func binary(n int) api.Design {
	return of(n, slices.DeleteFunc(threes(n), func(b []int) bool { return (b[0]+1)^(b[1]+1)^(b[2]+1) != 0 })...)
}

// ternary are the lines of an affine space of n points, a power of 3: digit by digit they are all alike or all unlike.
func ternary(n int) api.Design {
	return of(n, slices.DeleteFunc(threes(n), func(b []int) bool {
		for digit := 1; digit < n; digit *= 3 {
			if (b[0]/digit+b[1]/digit+b[2]/digit)%3 != 0 {
				return true
			}
		}
		return false
	})...)
}

// book is a system that is in books, and how many sets of four Passes finds there.
type book struct {
	name   string
	d      api.Design
	passes int
}

func books() []book {
	return []book{
		{"one point", of(1), 0},
		{"three points", of(3, []int{0, 1, 2}), 0},
		{"seven points", binary(7), 7},
		{"seven points, moved", moved(7, []int{0, 1, 3}), 7},
		{"nine points", ternary(9), 0},
		{"13 points, moved", moved(13, []int{0, 1, 4}, []int{0, 2, 7}), 13},
		{"13 points, not moved", thirteen(), 8},
		{"15 points", binary(15), 105},
		{"19 points, moved", moved(19, []int{0, 1, 8}, []int{0, 2, 5}, []int{0, 4, 13}), 0},
		{"27 points", ternary(27), 0},
		{"31 points", binary(31), 1085},
	}
}

// thirteen is the other one of 13 points: in one set of four of the one that is moved each point lies with others than before.
func thirteen() api.Design {
	d := moved(13, []int{0, 1, 4}, []int{0, 2, 7})
	four := firstPasch(d)
	corners := union(four...)
	d.Blocks = slices.DeleteFunc(d.Blocks, func(b []int) bool {
		return slices.ContainsFunc(four, func(c []int) bool { return slices.Equal(b, c) })
	})
	for _, b := range four {
		d.Blocks = append(d.Blocks, slices.DeleteFunc(slices.Clone(corners), func(p int) bool { return slices.Contains(b, p) }))
	}
	return ordered(d)
}

// firstPasch finds a set of four.
func firstPasch(d api.Design) [][]int {
	var out [][]int
	eachPasch(d, func(four [][]int) {
		if out == nil {
			out = slices.Clone(four)
		}
	})
	return out
}

// eachPasch goes through all sets of four blocks, but for those of which three have more than six points already.
func eachPasch(d api.Design, met func(four [][]int)) {
	for i, a := range d.Blocks {
		for j, b := range d.Blocks[:i] {
			for k, c := range d.Blocks[:j] {
				if len(union(a, b, c)) > 6 {
					continue
				}
				for _, e := range d.Blocks[:k] {
					if four := [][]int{a, b, c, e}; isPasch(four) {
						met(four)
					}
				}
			}
		}
	}
}

// isPasch: six points together, each in two.
func isPasch(four [][]int) bool {
	points := union(four...)
	return len(points) == 6 && !slices.ContainsFunc(points, func(p int) bool { return lying(four, p) != 2 })
}

// lying counts the blocks in which all these points lie.
func lying(blocks [][]int, points ...int) int {
	out := 0
	for _, b := range blocks {
		if !slices.ContainsFunc(points, func(p int) bool { return !slices.Contains(b, p) }) {
			out++
		}
	}
	return out
}

// union has each point of the blocks once; it rises.
func union(blocks ...[]int) []int {
	out := slices.Concat(blocks...)
	slices.Sort(out)
	return slices.Compact(out)
}

func passes(d api.Design) int {
	out := 0
	eachPasch(d, func([][]int) { out++ })
	return out
}

// isSystem is for designs of which nothing is wrong.
func isSystem(d api.Design) bool {
	for _, b := range d.Blocks {
		if len(b) != 3 {
			return false
		}
	}
	for x := range d.Points {
		for y := range x {
			if lying(d.Blocks, x, y) != 1 {
				return false
			}
		}
	}
	return true
}

// bose is T2's first, word by word.
func bose(v int) api.Design {
	t := (v - 3) / 6
	m := 2*t + 1
	d := of(v)
	for x := 0; x <= m-1; x++ {
		d.Blocks = append(d.Blocks, block(x, x+m, x+2*m))
		for y := 0; y <= m-1; y++ {
			if x >= y {
				continue
			}
			h := (x + y) * (t + 1) % m
			d.Blocks = append(d.Blocks, block(x, y, h+m), block(x+m, y+m, h+2*m), block(x+2*m, y+2*m, h))
		}
	}
	return ordered(d)
}

// skolem is T2's second, word by word.
func skolem(v int) api.Design {
	t := (v - 1) / 6
	m := 2 * t
	d := of(v)
	for x := 0; x < t; x++ {
		d.Blocks = append(d.Blocks, block(x, x+m, x+2*m))
		d.Blocks = append(d.Blocks, block(6*t, x+t, x+m), block(6*t, x+t+m, x+2*m), block(6*t, x+t+2*m, x))
	}
	for x := 0; x < m; x++ {
		for y := x + 1; y < m; y++ {
			h := 0
			if s := (x + y) % m; s%2 == 0 {
				h = s / 2
			} else {
				h = (s-1)/2 + t
			}
			d.Blocks = append(d.Blocks, block(x, y, h+m), block(x+m, y+m, h+2*m), block(x+2*m, y+2*m, h))
		}
	}
	return ordered(d)
}

// made is T2's system.
func made(v int) api.Design {
	if v%6 == 1 {
		return skolem(v)
	}
	return bose(v)
}

// makes are the v of which there is a system, up to the greatest.
func makes() []int {
	return []int{1, 3, 7, 9, 13, 15, 19, 21, 25, 27, 31, 33}
}

// doubled is T3's first, word by word.
func doubled(d api.Design) api.Design {
	v := d.Points
	out := of(2*v + 1)
	for x := 0; x < v; x++ {
		out.Blocks = append(out.Blocks, block(x, x+v, 2*v))
	}
	for _, b := range d.Blocks {
		out.Blocks = append(out.Blocks, slices.Clone(b))
		out.Blocks = append(out.Blocks, block(b[0], b[1]+v, b[2]+v), block(b[1], b[0]+v, b[2]+v), block(b[2], b[0]+v, b[1]+v))
	}
	return ordered(out)
}

// multiplied is T3's second: a block has of three pairs the firsts alike or a block, and the seconds too, but not both alike.
func multiplied(a, b api.Design) api.Design {
	w := b.Points
	out := of(a.Points * w)
	good := func(d api.Design, x, y, z int) bool {
		return x == y && y == z || lying(d.Blocks, x, y, z) > 0 && x != y && y != z && x != z
	}
	for _, c := range threes(out.Points) {
		if good(a, c[0]/w, c[1]/w, c[2]/w) && good(b, c[0]%w, c[1]%w, c[2]%w) {
			out.Blocks = append(out.Blocks, c)
		}
	}
	return out
}

// named gives each point another number, and puts the blocks into order.
func named(d api.Design, names []int) api.Design {
	out := of(d.Points)
	for _, b := range d.Blocks {
		out.Blocks = append(out.Blocks, block(names[b[0]], names[b[1]], names[b[2]]))
	}
	return ordered(out)
}

// numbers gives numbers below their bound that look like none: the same ones for the same start.
func numbers(start int) func(bound int) int {
	x := uint64(start)*2654435761 + 12345
	return func(bound int) int {
		x = x*6364136223846793005 + 1442695040888963407
		return int(x>>33) % bound
	}
}

// mixed puts a list into another order.
func mixed[T any](list []T, start int) []T {
	next := numbers(start)
	out := slices.Clone(list)
	for i := len(out) - 1; i > 0; i-- {
		j := next(i + 1)
		out[i], out[j] = out[j], out[i]
	}
	return out
}

// strewn has the same system by other numbers of points and of blocks.
func strewn(d api.Design, start int) api.Design {
	var names []int
	for x := range d.Points {
		names = append(names, x)
	}
	out := named(d, mixed(names, start))
	out.Blocks = mixed(out.Blocks, start+1)
	return out
}

// systems are of all kinds, and all numbers of points.
func systems() []api.Design {
	var out []api.Design
	for _, v := range makes() {
		out = append(out, made(v), strewn(made(v), v))
	}
	for _, b := range books() {
		out = append(out, b.d, strewn(b.d, len(b.name)))
	}
	return append(out, doubled(thirteen()), multiplied(ternary(3), bose(9)), multiplied(binary(7), ternary(3)))
}

// allOf are all systems of up to nine points, in order: they become one another by other names, so that exchanging a point with the next one, again and again, leads to all of them.
func allOf(v int) []api.Design {
	if v%6 != 1 && v%6 != 3 {
		return nil
	}
	out := []api.Design{made(v)}
	met := map[string]bool{fmt.Sprint(out[0]): true}
	for i := 0; i < len(out); i++ {
		for x := range v - 1 {
			names := make([]int, v)
			for p := range names {
				names[p] = p
			}
			names[x], names[x+1] = x+1, x
			d := named(out[i], names)
			if text := fmt.Sprint(d); !met[text] {
				met[text] = true
				out = append(out, d)
			}
		}
	}
	slices.SortFunc(out, func(a, b api.Design) int { return slices.CompareFunc(a.Blocks, b.Blocks, slices.Compare) })
	return out
}

// firstWith is the first of these systems that has all these blocks; false, if there is none.
func firstWith(systems []api.Design, blocks [][]int) (api.Design, bool) {
	for _, d := range systems {
		if !slices.ContainsFunc(blocks, func(b []int) bool { return lying(d.Blocks, b...) == 0 }) {
			return d, true
		}
	}
	return api.Design{}, false
}

func name(call string, d api.Design) string {
	return fmt.Sprintf("%s of %d points, %v", call, d.Points, d.Blocks)
}

func same(a, b api.Design) bool {
	return a.Points == b.Points && slices.EqualFunc(a.Blocks, b.Blocks, slices.Equal)
}

// wantDesign is for a design and no error.
func wantDesign(t *testing.T, call string, got api.Design, e api.Errno, want api.Design) {
	t.Helper()
	if !same(got, want) || e != api.OK {
		t.Errorf("%s: got %v, error %d; want %v", call, got, e, want)
	}
}

// wantNoDesign is for an error, and nothing beside it (P1).
func wantNoDesign(t *testing.T, call string, got api.Design, e, want api.Errno) {
	t.Helper()
	if got.Points != 0 || len(got.Blocks) != 0 || e != want {
		t.Errorf("%s: got %v, error %d; want error %d", call, got, e, want)
	}
}

func wantNumber(t *testing.T, call string, got int, e api.Errno, want int) {
	t.Helper()
	if got != want || e != api.OK {
		t.Errorf("%s: got %d, error %d; want %d", call, got, e, want)
	}
}

// wantNoNumber is for an error, and nothing beside it (P1).
func wantNoNumber(t *testing.T, call string, got int, e, want api.Errno) {
	t.Helper()
	if got != 0 || e != want {
		t.Errorf("%s: got %d, error %d; want error %d", call, got, e, want)
	}
}
