package plane_test

import (
	"math"
	"slices"
	"testing"

	"parterre/api"
	"parterre/plane"
)

// wrong is a design, and what is wrong with it.
type wrong struct {
	d    api.Design
	want api.Errno
}

// brokenOnes have each error of chapter 8; where several apply, the one that is said first.
func brokenOnes() []wrong {
	seven := made(2)
	many := slices.Repeat([][]int{{0, 1, 2}}, 201)
	return []wrong{
		{api.Design{}, api.ErrRange},
		{of(0, []int{1, 0}), api.ErrRange},
		{of(-1), api.ErrRange},
		{of(-7, seven.Blocks...), api.ErrRange},
		{of(41), api.ErrRange},
		{of(1<<32+7, seven.Blocks...), api.ErrRange},
		{of(math.MaxInt), api.ErrRange},
		{of(math.MinInt, many...), api.ErrRange},
		{of(57, developed(57, 0, 1, 3, 13, 32, 36, 43, 52).Blocks...), api.ErrRange},
		{of(7, many...), api.ErrFull},
		{of(2, many...), api.ErrFull},
		{with(seven, many...), api.ErrFull},
		{of(6, seven.Blocks...), api.ErrRange},
		{with(seven, []int{7}), api.ErrRange},
		{with(seven, []int{2, 1, -1}), api.ErrRange},
		{instead(seven, 3, []int{0, 1, math.MaxInt}), api.ErrRange},
		{instead(seven, 0, []int{math.MinInt, 3, 5}), api.ErrRange},
		{instead(instead(seven, 6, []int{1, 0}), 5, []int{7}), api.ErrRange},
		{instead(seven, 0, []int{1, 5, 3}), api.ErrShape},
		{instead(seven, 6, slices.Repeat([]int{3}, 3)), api.ErrShape},
		{instead(instead(seven, 5, []int{1, 0}), 6, []int{7}), api.ErrShape},
		{with(seven, []int{0, 0}), api.ErrShape},
		{with(of(1), []int{0, 0}), api.ErrShape},
	}
}

// noPlanes are designs that are none.
func noPlanes() []api.Design {
	seven, thirteen, last := made(2), made(3), made(5)
	out := []api.Design{
		of(1), of(1, nil), of(1, []int{0}), of(1, []int{0}, []int{0}),
		of(2), of(2, []int{0, 1}), of(2, []int{0}, []int{0, 1}),
		of(3, []int{0, 1}, []int{0, 2}, []int{1, 2}), // a triangle: no four points at all
		of(3, upTo(3)), of(3, upTo(3), []int{0}),
		of(4, choices(4, 2)...), of(4, choices(4, 3)...), of(4, upTo(4)),
		of(5, []int{0, 1, 2}, []int{0, 3, 4}, []int{1, 3}, []int{1, 4}, []int{2, 3}, []int{2, 4}), // four points are there, but two blocks have none together
		of(7), of(7, upTo(7)), of(7, choices(7, 2)...), of(7, choices(7, 3)...), of(7, make([][]int, 7)...),
		of(40), of(40, upTo(40)), of(40, make([][]int, 200)...), of(40, slices.Repeat([][]int{{0, 1, 2}}, 200)...),
		of(8, seven.Blocks...), of(32, last.Blocks...), of(40, last.Blocks...),
		without(seven, 0), without(seven, 6), without(last, 0), without(last, 30), of(7, seven.Blocks[:1]...), of(7, seven.Blocks[:2]...),
		with(seven, nil), with(seven, []int{0}), with(seven, []int{0, 1}), with(seven, upTo(7)), with(seven, seven.Blocks[3]),
		with(seven, seven.Blocks...), with(last, last.Blocks[30]), with(last, nil), with(last, []int{30}),
		instead(seven, 0, nil), instead(seven, 0, []int{1, 3}), instead(seven, 0, []int{1, 3, 6}), instead(seven, 0, []int{1, 3, 5, 6}), instead(seven, 0, seven.Blocks[1]),
		instead(thirteen, 12, thirteen.Blocks[0]), instead(last, 30, last.Blocks[29]), instead(last, 7, last.Blocks[7][1:]),
		affine(2), affine(3), affine(5), mixed(affine(3), 1),
		developed(7, 0, 1, 2), developed(7, 0, 3, 5, 6), developed(11, 1, 3, 4, 5, 9), developed(13, 0, 1, 4, 5), developed(40, 0, 1),
		developed(15, 0, 1, 2, 4, 5, 8, 10),
		developed(19, 1, 4, 5, 6, 7, 9, 11, 16, 17),
		with(developed(13, 0, 1, 4), developed(13, 0, 2, 7).Blocks...), // Steiner's triples, which do not all meet
	}
	for n := 4; n <= 40; n++ {
		out = append(out, pencil(n))
	}
	return out
}

// wrongOnes have each error of P1.
func wrongOnes() []wrong {
	out := brokenOnes()
	for _, d := range noPlanes() {
		out = append(out, wrong{d, api.ErrNone})
	}
	return out
}

// TestHelpersAgree: what is called a plane here, and what is not, is so by the words of P1.
func TestHelpersAgree(t *testing.T) {
	for _, k := range planes() {
		if !isPlane(k.Design) {
			t.Errorf("%v is no plane", k.Design)
		}
	}
	for _, d := range noPlanes() {
		if d.Points < 20 && isPlane(d) {
			t.Errorf("%v is a plane", d)
		}
	}
}

// TestCheck has P1's errors.
func TestCheck(t *testing.T) {
	for _, w := range wrongOnes() {
		n, e := plane.Check(w.d)
		wantNumber(t, name("Check", w.d), n, e, 0, w.want)
	}
}

// TestCheckOfPlanes has P1: the order, whatever the points are called and wherever the blocks stand.
func TestCheckOfPlanes(t *testing.T) {
	for _, k := range planes() {
		n, e := plane.Check(k.Design)
		wantNumber(t, name("Check", k.Design), n, e, k.order, api.OK)
	}
}

// TestCheckOfAllSmall has P1: no design of up to 4 points is one, however few or many blocks it has, each once.
func TestCheckOfAllSmall(t *testing.T) {
	for n := 1; n <= 4; n++ {
		for bits := range 1 << (1 << n) {
			d := of(n)
			for block := range 1 << n {
				if bits>>block&1 == 1 {
					d.Blocks = append(d.Blocks, listOf(n, func(p int) bool { return block>>p&1 == 1 }))
				}
			}
			if n < 4 && isPlane(d) {
				t.Errorf("%v is a plane", d)
			}
			got, e := plane.Check(d)
			wantNumber(t, name("Check", d), got, e, 0, api.ErrNone)
		}
	}
}

// TestCheckOfSevenTriples has P1: of seven points, all blocks of three that meet in one point each two, in order. Seven of these are a plane, fewer are none; 30 planes are known.
func TestCheckOfSevenTriples(t *testing.T) {
	all := choices(7, 3)
	found := 0
	var try func(d api.Design, from int)
	try = func(d api.Design, from int) {
		if len(d.Blocks) == 7 {
			found++
			n, e := plane.Check(d)
			wantNumber(t, name("Check", d), n, e, 2, api.OK)
			return
		}
		n, e := plane.Check(d)
		wantNumber(t, name("Check", d), n, e, 0, api.ErrNone)
		for i := from; i < len(all); i++ {
			next := with(d, all[i])
			if !slices.ContainsFunc(upTo(len(d.Blocks)), func(b int) bool { return len(shared(next, b, len(d.Blocks))) != 1 }) {
				try(next, i+1)
			}
		}
	}
	try(of(7), 0)
	if found != 30 {
		t.Errorf("%d are found", found)
	}
}

// TestCheckOfOthers has P1: planes of which some points of some blocks are other ones.
func TestCheckOfOthers(t *testing.T) {
	for start, k := range planes() {
		next := numbers(start)
		for range 10 {
			d := of(k.Points)
			for _, b := range k.Blocks {
				d.Blocks = append(d.Blocks, slices.Clone(b))
			}
			for range 1 + next(3) {
				b := next(len(d.Blocks))
				block := append(d.Blocks[b], next(d.Points))
				slices.Sort(block)
				block = slices.Compact(block)
				if len(block) > k.order+1 && next(4) > 0 {
					block = slices.Delete(block, 0, 1)
				}
				d.Blocks[b] = block
			}
			want, wantError := 0, api.ErrNone
			if isPlane(d) {
				want, wantError = k.order, api.OK
			}
			n, e := plane.Check(d)
			wantNumber(t, name("Check", d), n, e, want, wantError)
		}
	}
}

// TestCheckFirst has P1: Join, Meet and Arc say this first, whatever else is wrong, and nothing beside it.
func TestCheckFirst(t *testing.T) {
	for _, w := range wrongOnes() {
		for _, two := range [][]int{{0, 1}, {0, 0}, {-1, 5}, {2, 1}, {0, 100}, {math.MinInt, math.MaxInt}} {
			n, e := plane.Join(w.d, two[0], two[1])
			wantNumber(t, name("Join", w.d), n, e, 0, w.want)
			n, e = plane.Meet(w.d, two[0], two[1])
			wantNumber(t, name("Meet", w.d), n, e, 0, w.want)
			is, e := plane.Arc(w.d, two)
			wantBool(t, name("Arc", w.d), is, e, false, w.want)
		}
		is, e := plane.Arc(w.d, nil)
		wantBool(t, name("Arc", w.d), is, e, false, w.want)
	}
}
