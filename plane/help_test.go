package plane_test

import (
	"fmt"
	"slices"
	"testing"

	"parterre/api"
)

// The helpers here go by the words of the document, by lists and by trying all, so that a fault of the package is no fault of theirs.

// of is a design of n points.
func of(n int, blocks ...[]int) api.Design {
	return api.Design{Points: n, Blocks: blocks}
}

// listOf gives the first n points of which it holds.
func listOf(n int, holds func(p int) bool) []int {
	var out []int
	for p := range n {
		if holds(p) {
			out = append(out, p)
		}
	}
	return out
}

// upTo has the first n points.
func upTo(n int) []int {
	return listOf(n, func(int) bool { return true })
}

// choices gives all lists of k of the first n points that rise, in order.
func choices(n, k int) [][]int {
	if k == 0 {
		return [][]int{{}}
	}
	var out [][]int
	for first := 0; first < n; first++ {
		for _, behind := range choices(n-first-1, k-1) {
			list := []int{first}
			for _, p := range behind {
				list = append(list, first+1+p)
			}
			out = append(out, list)
		}
	}
	return out
}

// numbers gives numbers below their bound that are strewn, and the same ones each time.
func numbers(start int) func(bound int) int {
	state := uint64(start)*0x9e3779b97f4a7c15 + 12345
	return func(bound int) int {
		state = state*6364136223846793005 + 1442695040888963407
		return int(state>>33) % bound
	}
}

// strewnOrder has the first n points in some order.
func strewnOrder(n int, next func(int) int) []int {
	out := upTo(n)
	for i := n - 1; i > 0; i-- {
		j := next(i + 1)
		out[i], out[j] = out[j], out[i]
	}
	return out
}

// mixed has other numbers for the points, and the blocks in another order.
func mixed(d api.Design, start int) api.Design {
	next := numbers(start)
	names, places := strewnOrder(d.Points, next), strewnOrder(len(d.Blocks), next)
	out := of(d.Points, make([][]int, len(d.Blocks))...)
	for i, b := range d.Blocks {
		var block []int
		for _, p := range b {
			block = append(block, names[p])
		}
		slices.Sort(block)
		out.Blocks[places[i]] = block
	}
	return out
}

// developed has a block and what it becomes, if the same number is added to each point, modulo n.
func developed(n int, block ...int) api.Design {
	d := of(n)
	for i := range n {
		var other []int
		for _, p := range block {
			other = append(other, (p+i)%n)
		}
		slices.Sort(other)
		d.Blocks = append(d.Blocks, other)
	}
	return d
}

// affine is the plane of pairs of numbers modulo a prime.
func affine(q int) api.Design {
	d := of(q * q)
	for rise := range q {
		for start := range q {
			d.Blocks = append(d.Blocks, listOf(q*q, func(p int) bool { return (p/q*rise+start)%q == p%q }))
		}
	}
	for c := range q {
		d.Blocks = append(d.Blocks, listOf(q*q, func(p int) bool { return p/q == c }))
	}
	return d
}

// pencil has a block of all points but the last, and the last one with each of these: each two points lie in one block, each two blocks meet in one point, but no four points are as a plane asks.
func pencil(n int) api.Design {
	d := of(n, upTo(n-1))
	for p := range n - 1 {
		d.Blocks = append(d.Blocks, []int{p, n - 1})
	}
	return d
}

// without leaves one block out.
func without(d api.Design, number int) api.Design {
	return of(d.Points, slices.Delete(slices.Clone(d.Blocks), number, number+1)...)
}

// with puts blocks behind the others.
func with(d api.Design, blocks ...[]int) api.Design {
	return of(d.Points, slices.Concat(d.Blocks, blocks)...)
}

// instead has another block at a number.
func instead(d api.Design, number int, block []int) api.Design {
	blocks := slices.Clone(d.Blocks)
	blocks[number] = block
	return of(d.Points, blocks...)
}

// numberField is one of a prime: whatever Low has, the elements are the numbers modulo the prime.
func numberField(p, low int) api.Field {
	return api.Field{Prime: p, Degree: 1, Low: []int{low}}
}

// four is the only field of 4 elements: x x + x + 1 is 0.
func four() api.Field {
	return api.Field{Prime: 2, Degree: 2, Low: []int{1, 1}}
}

// smallFields are all fields of an order of at most 5.
func smallFields() []api.Field {
	out := []api.Field{four()}
	for _, p := range []int{2, 3, 5} {
		for low := range p {
			out = append(out, numberField(p, low))
		}
	}
	return out
}

// order is that of a field of a degree of at most 2.
func order(f api.Field) int {
	if f.Degree == 2 {
		return f.Prime * f.Prime
	}
	return f.Prime
}

// sum of two elements of the field of q, at most 5.
func sum(q, a, b int) int {
	if q == 4 {
		return a ^ b
	}
	return (a + b) % q
}

// product of two elements of the field of q, at most 5; of 4 it is read off a table that was made by hand.
func product(q, a, b int) int {
	if q == 4 {
		return [4][4]int{{0, 0, 0, 0}, {0, 1, 2, 3}, {0, 2, 3, 1}, {0, 3, 1, 2}}[a][b]
	}
	return a * b % q
}

// directions gives the triples below q of which the first that is not 0 is 1, in order: 1 stands last, or in the middle, or first.
func directions(q int) [][]int {
	out := [][]int{{0, 0, 1}}
	for z := range q {
		out = append(out, []int{0, 1, z})
	}
	for y := range q {
		for z := range q {
			out = append(out, []int{1, y, z})
		}
	}
	return out
}

// made is what Make is to make.
func made(q int) api.Design {
	all := directions(q)
	d := of(len(all))
	for _, a := range all {
		d.Blocks = append(d.Blocks, listOf(len(all), func(p int) bool {
			x := all[p]
			return sum(q, sum(q, product(q, a[0], x[0]), product(q, a[1], x[1])), product(q, a[2], x[2])) == 0
		}))
	}
	return d
}

// conic is what Conic is to give.
func conic(q int) []int {
	all := directions(q)
	return listOf(len(all), func(p int) bool {
		return product(q, all[p][1], all[p][1]) == product(q, all[p][0], all[p][2])
	})
}

// known is a plane, and its order.
type known struct {
	api.Design
	order int
}

// planes are what a field makes, what sets of differences make, and these with other numbers.
func planes() []known {
	var out []known
	for q := 2; q <= 5; q++ {
		out = append(out, known{made(q), q})
	}
	out = append(out,
		known{of(7, []int{0, 1, 2}, []int{0, 3, 4}, []int{0, 5, 6}, []int{1, 3, 5}, []int{1, 4, 6}, []int{2, 3, 6}, []int{2, 4, 5}), 2},
		known{developed(7, 0, 1, 3), 2},
		known{developed(13, 0, 1, 3, 9), 3},
		known{developed(21, 3, 6, 7, 12, 14), 4},
		known{developed(31, 1, 5, 11, 24, 25, 27), 5},
	)
	for i, k := range out {
		out = append(out, known{mixed(k.Design, i), k.order}, known{mixed(k.Design, 100+i), k.order})
	}
	return out
}

func hasAll(block, points []int) bool {
	return !slices.ContainsFunc(points, func(p int) bool { return !slices.Contains(block, p) })
}

// holding gives the numbers of the blocks that have all of some points.
func holding(d api.Design, points ...int) []int {
	return listOf(len(d.Blocks), func(i int) bool { return hasAll(d.Blocks[i], points) })
}

// shared gives the points that two blocks have.
func shared(d api.Design, b, c int) []int {
	return listOf(d.Points, func(p int) bool {
		return slices.Contains(d.Blocks[b], p) && slices.Contains(d.Blocks[c], p)
	})
}

// isArc: lie no three of some points in a block?
func isArc(d api.Design, points []int) bool {
	for _, places := range choices(len(points), 3) {
		if len(holding(d, points[places[0]], points[places[1]], points[places[2]])) > 0 {
			return false
		}
	}
	return true
}

// isPlane goes by the words of P1.
func isPlane(d api.Design) bool {
	for _, two := range choices(d.Points, 2) {
		if len(holding(d, two...)) != 1 {
			return false
		}
	}
	for _, two := range choices(len(d.Blocks), 2) {
		if len(shared(d, two[0], two[1])) != 1 {
			return false
		}
	}
	return slices.ContainsFunc(choices(d.Points, 4), func(points []int) bool { return isArc(d, points) })
}

func name(call string, told ...any) string {
	return call + " of " + fmt.Sprint(told...)
}

func wantNumber(t *testing.T, call string, got int, e api.Errno, want int, wantError api.Errno) {
	t.Helper()
	if got != want || e != wantError {
		t.Errorf("%s: got %d, error %d; want %d, error %d", call, got, e, want, wantError)
	}
}

func wantBool(t *testing.T, call string, got bool, e api.Errno, want bool, wantError api.Errno) {
	t.Helper()
	if got != want || e != wantError {
		t.Errorf("%s: got %t, error %d; want %t, error %d", call, got, e, want, wantError)
	}
}

// wantList has no list beside an error.
func wantList(t *testing.T, call string, got []int, e api.Errno, want []int, wantError api.Errno) {
	t.Helper()
	if !slices.Equal(got, want) || e != wantError {
		t.Errorf("%s: got %v, error %d; want %v, error %d", call, got, e, want, wantError)
	}
}

func same(a, b api.Design) bool {
	return a.Points == b.Points && slices.EqualFunc(a.Blocks, b.Blocks, slices.Equal[[]int])
}

func wantDesign(t *testing.T, call string, got api.Design, e api.Errno, want api.Design, wantError api.Errno) {
	t.Helper()
	if !same(got, want) || e != wantError {
		t.Errorf("%s: got %v, error %d; want %v, error %d", call, got, e, want, wantError)
	}
}
