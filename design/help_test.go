package design_test

import (
	"fmt"
	"slices"
	"testing"

	"parterre/api"
)

// The helpers here go by the words of the document, by lists and not by bits, so that a fault of the package is no fault of theirs.

// seven is the chapter's example.
func seven() api.Design {
	return api.Design{Points: 7, Blocks: [][]int{{0, 1, 3}, {1, 2, 4}, {2, 3, 5}, {3, 4, 6}, {0, 4, 5}, {1, 5, 6}, {0, 2, 6}}}
}

// listOf gives the first n points of which it holds.
func listOf(n int, holds func(p int) bool) []int {
	var out []int
	for p := range n {
		if holds(p) {
			out = append(out, p)
		}
	}
	return out
}

// first has the first k points.
func first(k int) []int {
	return listOf(k, func(int) bool { return true })
}

// last has the last k of n points.
func last(n, k int) []int {
	return listOf(n, func(p int) bool { return p >= n-k })
}

// choices gives all lists of t of the first n points that rise, in order.
func choices(n, t int) [][]int {
	if t == 0 {
		return [][]int{{}}
	}
	var out [][]int
	for first := 0; first < n; first++ {
		for _, behind := range choices(n-first-1, t-1) {
			list := []int{first}
			for _, p := range behind {
				list = append(list, first+1+p)
			}
			out = append(out, list)
		}
	}
	return out
}

// all has each k of n points as a block.
func all(n, k int) api.Design {
	return api.Design{Points: n, Blocks: choices(n, k)}
}

// moved has a block and what it becomes, if the same number is added to each point, modulo n.
func moved(n int, block ...int) api.Design {
	d := api.Design{Points: n}
	for i := range n {
		var other []int
		for _, p := range block {
			other = append(other, (p+i)%n)
		}
		slices.Sort(other)
		d.Blocks = append(d.Blocks, other)
	}
	return d
}

// directions gives the lists of m numbers below q of which the first that is not 0 is 1.
func directions(q, m int) [][]int {
	lists := [][]int{{}}
	for range m {
		var longer [][]int
		for _, list := range lists {
			for x := range q {
				longer = append(longer, append(slices.Clone(list), x))
			}
		}
		lists = longer
	}
	return slices.DeleteFunc(lists, func(list []int) bool {
		i := slices.IndexFunc(list, func(x int) bool { return x != 0 })
		return i < 0 || list[i] != 1
	})
}

// hyperplanes of the projective space of lists of m numbers modulo a prime: as many as points.
func hyperplanes(q, m int) api.Design {
	points := directions(q, m)
	d := api.Design{Points: len(points)}
	for _, normal := range points {
		d.Blocks = append(d.Blocks, listOf(len(points), func(p int) bool {
			sum := 0
			for i, x := range points[p] {
				sum += x * normal[i]
			}
			return sum%q == 0
		}))
	}
	return d
}

// affine is the plane of pairs of numbers modulo a prime: its lines are those that rise by 0, by 1 .. and those that stand upright.
func affine(q int) api.Design {
	d := api.Design{Points: q * q}
	for rise := range q {
		for start := range q {
			d.Blocks = append(d.Blocks, listOf(q*q, func(p int) bool { return (p/q*rise+start)%q == p%q }))
		}
	}
	for c := range q {
		d.Blocks = append(d.Blocks, listOf(q*q, func(p int) bool { return p/q == c }))
	}
	return d
}

// fours of a power of 2 of points: those that are 0 together, bit by bit. Each three points lie in one.
func fours(n int) api.Design {
	d := all(n, 4)
	d.Blocks = slices.DeleteFunc(d.Blocks, func(b []int) bool { return b[0]^b[1]^b[2]^b[3] != 0 })
	return d
}

// binaryLines are the 35 lines of the projective space of 15 points.
func binaryLines() api.Design {
	d := all(15, 3)
	d.Blocks = slices.DeleteFunc(d.Blocks, func(b []int) bool { return (b[0]+1)^(b[1]+1)^(b[2]+1) != 0 })
	return d
}

// crosses has of each of 16 places, four by four, the others of its row and column.
func crosses() api.Design {
	d := api.Design{Points: 16}
	for place := range 16 {
		d.Blocks = append(d.Blocks, listOf(16, func(p int) bool {
			return (p/4 == place/4) != (p%4 == place%4)
		}))
	}
	return d
}

// twelve is Witt's: each five of 12 points lie in one of its 132 blocks of six. The points are the numbers modulo 11, and 11 for what is beyond them; the blocks are what the squares, 0 left out and the one beyond put in, are moved to.
func twelve() api.Design {
	d := api.Design{Points: 12, Blocks: [][]int{{1, 3, 4, 5, 9, 11}}}
	steps := [][]int{
		{1, 2, 3, 4, 5, 6, 7, 8, 9, 10, 0, 11}, // p + 1
		{11, 10, 5, 7, 8, 2, 9, 3, 4, 6, 1, 0}, // - 1 / p
	}
	for i := 0; i < len(d.Blocks); i++ {
		for _, step := range steps {
			var b []int
			for _, p := range d.Blocks[i] {
				b = append(b, step[p])
			}
			slices.Sort(b)
			if !slices.ContainsFunc(d.Blocks, func(c []int) bool { return slices.Equal(b, c) }) {
				d.Blocks = append(d.Blocks, b)
			}
		}
	}
	return d
}

// book is a design that is in books: how many points a block has, up to which t, 4 or below, each t points lie together equally often, and how often they do then.
type book struct {
	name               string
	d                  api.Design
	size, deep, lambda int
}

func books() []book {
	return []book{
		{"seven", seven(), 3, 2, 1},
		{"hyperplanes of 13 points", hyperplanes(3, 3), 4, 2, 1},
		{"hyperplanes of 31 points", hyperplanes(5, 3), 6, 2, 1},
		{"hyperplanes of 15 points", hyperplanes(2, 4), 7, 2, 3},
		{"hyperplanes of 31 points of a space", hyperplanes(2, 5), 15, 2, 7},
		{"hyperplanes of 40 points", hyperplanes(3, 4), 13, 2, 4},
		{"affine of 4 points", affine(2), 2, 2, 1},
		{"affine of 9 points", affine(3), 3, 2, 1},
		{"affine of 25 points", affine(5), 5, 2, 1},
		{"fours of 8 points", fours(8), 4, 3, 1},
		{"fours of 16 points", fours(16), 4, 3, 1},
		{"binary lines", binaryLines(), 3, 2, 1},
		{"crosses", crosses(), 6, 2, 2},
		{"squares modulo 11", moved(11, 1, 3, 4, 5, 9), 5, 2, 2},
		{"squares modulo 19", moved(19, 1, 4, 5, 6, 7, 9, 11, 16, 17), 9, 2, 4},
		{"twelve", twelve(), 6, 4, 4},
		{"polygon", moved(40, 0, 1), 2, 1, 2},
		{"pairs of 20", all(20, 2), 2, 2, 1},
		{"all threes of 9", all(9, 3), 3, 3, 1},
		{"all fours of 9", all(9, 4), 4, 4, 1},
		{"all fives of 9", all(9, 5), 5, 4, 5},
		{"all sevens of 9", all(9, 7), 7, 4, 10},
	}
}

// tiny are all designs of up to 3 points and of up to 3 blocks.
func tiny() []api.Design {
	var out []api.Design
	for n := 1; n <= 3; n++ {
		var blocks [][]int
		for k := 0; k <= n; k++ {
			blocks = append(blocks, choices(n, k)...)
		}
		lists := [][][]int{{}}
		for range 4 {
			var longer [][][]int
			for _, list := range lists {
				out = append(out, api.Design{Points: n, Blocks: list})
				for _, b := range blocks {
					longer = append(longer, append(slices.Clone(list), b))
				}
			}
			lists = longer
		}
	}
	return out
}

// numbers gives numbers below their bound that look like none: the same ones for the same start.
func numbers(start int) func(bound int) int {
	x := uint64(start)*2654435761 + 12345
	return func(bound int) int {
		x = x*6364136223846793005 + 1442695040888963407
		return int(x>>33) % bound
	}
}

// strewn has b blocks of n points, in which each point lies about once in so many.
func strewn(n, b, once, start int) api.Design {
	next := numbers(start)
	d := api.Design{Points: n}
	for range b {
		d.Blocks = append(d.Blocks, listOf(n, func(int) bool { return next(once) == 0 }))
	}
	return d
}

// strewnOnes are many, up to the greatest that may be.
func strewnOnes() []api.Design {
	var out []api.Design
	for i, n := range []int{1, 2, 4, 5, 6, 8, 11, 15, 16, 27, 39, 40} {
		for j, b := range []int{1, 2, 5, 12, 39, 40, 41, 200} {
			out = append(out, strewn(n, b, 2+(i+j)%4, 10*i+j))
		}
	}
	return out
}

// some are designs of all kinds.
func some() []api.Design {
	out := append(tiny(), strewnOnes()...)
	for _, b := range books() {
		out = append(out, b.d)
	}
	return out
}

// mixedBlocks puts the blocks into another order.
func mixedBlocks(d api.Design, start int) api.Design {
	next := numbers(start)
	blocks := slices.Clone(d.Blocks)
	for i := len(blocks) - 1; i > 0; i-- {
		j := next(i + 1)
		blocks[i], blocks[j] = blocks[j], blocks[i]
	}
	return api.Design{Points: d.Points, Blocks: blocks}
}

func hasAll(block, points []int) bool {
	return !slices.ContainsFunc(points, func(p int) bool { return !slices.Contains(block, p) })
}

// level: the last is false, if it is not so.
func level(d api.Design, t int) (int, int, bool) {
	sizes, counts := map[int]bool{}, map[int]bool{}
	for _, b := range d.Blocks {
		sizes[len(b)] = true
	}
	for _, points := range choices(d.Points, t) {
		count := 0
		for _, b := range d.Blocks {
			if hasAll(b, points) {
				count++
			}
		}
		counts[count] = true
		if len(sizes) != 1 || len(counts) > 1 {
			return 0, 0, false
		}
	}
	k, lambda := 0, 0
	for n := range sizes {
		k = n
	}
	for n := range counts {
		lambda = n
	}
	return k, lambda, true
}

func complement(d api.Design) api.Design {
	out := api.Design{Points: d.Points}
	for _, b := range d.Blocks {
		out.Blocks = append(out.Blocks, listOf(d.Points, func(p int) bool { return !slices.Contains(b, p) }))
	}
	return out
}

func dual(d api.Design) api.Design {
	out := api.Design{Points: len(d.Blocks)}
	for p := range d.Points {
		out.Blocks = append(out.Blocks, listOf(len(d.Blocks), func(i int) bool { return slices.Contains(d.Blocks[i], p) }))
	}
	return out
}

func derived(d api.Design, point int) api.Design {
	out := api.Design{Points: d.Points - 1}
	for _, b := range d.Blocks {
		if !slices.Contains(b, point) {
			continue
		}
		var block []int
		for _, p := range b {
			switch {
			case p < point:
				block = append(block, p)
			case p > point:
				block = append(block, p-1)
			}
		}
		out.Blocks = append(out.Blocks, block)
	}
	return out
}

func residual(d api.Design, block int) api.Design {
	outside := listOf(d.Points, func(p int) bool { return !slices.Contains(d.Blocks[block], p) })
	out := api.Design{Points: len(outside)}
	for i, b := range d.Blocks {
		if i != block {
			out.Blocks = append(out.Blocks, listOf(len(outside), func(p int) bool { return slices.Contains(b, outside[p]) }))
		}
	}
	return out
}

func meets(d api.Design) []int {
	var out []int
	for i, a := range d.Blocks {
		for j, b := range d.Blocks {
			n := len(listOf(d.Points, func(p int) bool { return slices.Contains(a, p) && slices.Contains(b, p) }))
			if i != j && !slices.Contains(out, n) {
				out = append(out, n)
			}
		}
	}
	slices.Sort(out)
	return out
}

// parallel tries all lists that rise, in order, but for those in which two blocks have a point together. It is nil, if there is none.
func parallel(d api.Design) []int {
	var try func(list []int, covered [api.MaxDesign]bool, count int) []int
	try = func(list []int, covered [api.MaxDesign]bool, count int) []int {
		if count == d.Points {
			return list
		}
		from := 0
		if len(list) > 0 {
			from = list[len(list)-1] + 1
		}
		for i := from; i < len(d.Blocks); i++ {
			b, now := d.Blocks[i], covered
			if len(b) == 0 || slices.ContainsFunc(b, func(p int) bool { return covered[p] }) {
				continue
			}
			for _, p := range b {
				now[p] = true
			}
			if out := try(append(slices.Clone(list), i), now, count+len(b)); out != nil {
				return out
			}
		}
		return nil
	}
	return try(nil, [api.MaxDesign]bool{}, 0)
}

func name(call string, d api.Design) string {
	return fmt.Sprintf("%s of %d points, %v", call, d.Points, d.Blocks)
}

func same(a, b api.Design) bool {
	return a.Points == b.Points && slices.EqualFunc(a.Blocks, b.Blocks, slices.Equal[[]int])
}

// wantDesign is for a design and no error.
func wantDesign(t *testing.T, call string, got api.Design, e api.Errno, want api.Design) {
	t.Helper()
	if !same(got, want) || e != api.OK {
		t.Errorf("%s: got %v, error %d; want %v", call, got, e, want)
	}
}

// wantNoDesign is for an error, and nothing beside it (P1).
func wantNoDesign(t *testing.T, call string, got api.Design, e, want api.Errno) {
	t.Helper()
	if got.Points != 0 || len(got.Blocks) != 0 || e != want {
		t.Errorf("%s: got %v, error %d; want error %d", call, got, e, want)
	}
}

// wantList is for a list and no error.
func wantList(t *testing.T, call string, got []int, e api.Errno, want []int) {
	t.Helper()
	if !slices.Equal(got, want) || e != api.OK {
		t.Errorf("%s: got %v, error %d; want %v", call, got, e, want)
	}
}

// wantNoList is for an error, and nothing beside it (P1).
func wantNoList(t *testing.T, call string, got []int, e, want api.Errno) {
	t.Helper()
	if len(got) != 0 || e != want {
		t.Errorf("%s: got %v, error %d; want error %d", call, got, e, want)
	}
}

// wantLevel is for both numbers of Level and no error.
func wantLevel(t *testing.T, call string, k, lambda int, e api.Errno, wantK, wantLambda int) {
	t.Helper()
	if k != wantK || lambda != wantLambda || e != api.OK {
		t.Errorf("%s: got %d, %d, error %d; want %d, %d", call, k, lambda, e, wantK, wantLambda)
	}
}

// wantNoLevel is for an error, and nothing beside it (P1).
func wantNoLevel(t *testing.T, call string, k, lambda int, e, want api.Errno) {
	t.Helper()
	if k != 0 || lambda != 0 || e != want {
		t.Errorf("%s: got %d, %d, error %d; want error %d", call, k, lambda, e, want)
	}
}
