package design_test

import (
	"slices"
	"testing"

	"parterre/api"
	"parterre/design"
)

// TestMeets has D4.
func TestMeets(t *testing.T) {
	for _, d := range some() {
		got, e := design.Meets(d)
		wantList(t, name("Meets", d), got, e, meets(d))
	}
}

// TestMeetsOfTheBooks has D4: in how many points blocks of designs that are known meet.
func TestMeetsOfTheBooks(t *testing.T) {
	for _, c := range []struct {
		d    api.Design
		want []int
	}{
		{affine(3), []int{0, 1}},
		{hyperplanes(3, 4), []int{4}},
		{fours(8), []int{0, 2}},
		{twelve(), []int{0, 2, 3, 4}},
		{crosses(), []int{2}},
		{all(9, 5), []int{1, 2, 3, 4}},
		{all(9, 7), []int{5, 6}},
	} {
		got, e := design.Meets(c.d)
		wantList(t, name("Meets", c.d), got, e, c.want)
	}
}

// TestMeetsOfPairsAlone has D4's edges: no block is held against itself, but against one that is the same; up to all 40 points.
func TestMeetsOfPairsAlone(t *testing.T) {
	whole := first(40)
	for _, c := range []struct {
		blocks [][]int
		want   []int
	}{
		{nil, nil},
		{[][]int{{0, 1, 2}}, nil},
		{[][]int{{0, 1, 2}, {0, 1, 2}}, []int{3}},
		{[][]int{{0, 1, 2}, {3}}, []int{0}},
		{[][]int{nil, nil}, []int{0}},
		{[][]int{whole, whole, {39}}, []int{1, 40}},
		{[][]int{whole, whole[:39]}, []int{39}},
		{[][]int{whole[:3], whole[2:], whole[1:4], nil}, []int{0, 1, 2}},
	} {
		d := api.Design{Points: 40, Blocks: c.blocks}
		got, e := design.Meets(d)
		wantList(t, name("Meets", d), got, e, c.want)
	}
}

// wantParallel holds Parallel against all lists.
func wantParallel(t *testing.T, d api.Design) bool {
	t.Helper()
	want := parallel(d)
	got, e := design.Parallel(d)
	if want == nil {
		wantNoList(t, name("Parallel", d), got, e, api.ErrNone)
	} else {
		wantList(t, name("Parallel", d), got, e, want)
	}
	return want != nil
}

// TestParallel has D4.
func TestParallel(t *testing.T) {
	cut, uncut := 0, 0
	for _, d := range some() {
		if d.Points > 15 {
			got, e := design.Parallel(d)
			wantNoList(t, name("Parallel", d), got, e, api.ErrFull)
		} else if wantParallel(t, d) {
			cut++
		} else {
			uncut++
		}
	}
	if cut < 200 || uncut < 200 {
		t.Errorf("%d are cut, %d are not", cut, uncut)
	}
}

// TestParallelOfShortBlocks has D4, of designs that can be cut in many ways, and of some that can be cut in few.
func TestParallelOfShortBlocks(t *testing.T) {
	cut, uncut := 0, 0
	for start := range 400 {
		n := 4 + start%7
		d := strewn(n, 3+start%17, 2+start%3, start)
		if wantParallel(t, d) {
			cut++
		} else {
			uncut++
		}
	}
	if cut < 50 || uncut < 50 {
		t.Errorf("%d are cut, %d are not", cut, uncut)
	}
}

// TestParallelOfMixedBlocks has D4: which list is the first hangs on the order of the blocks.
func TestParallelOfMixedBlocks(t *testing.T) {
	for start := range 30 {
		for _, d := range []api.Design{affine(3), fours(8), all(6, 2), all(6, 3), all(9, 3), twelve()} {
			if !wantParallel(t, mixedBlocks(d, start)) {
				t.Errorf("%s: it is known that there is one", name("Parallel", d))
			}
		}
	}
}

// TestParallelOfTheBooks has D4: what is cut, and what is not, in designs that are known.
func TestParallelOfTheBooks(t *testing.T) {
	for _, c := range []struct {
		d    api.Design
		want []int
	}{
		{affine(2), []int{0, 1}},
		{affine(3), []int{0, 1, 2}},
		{fours(8), []int{0, 13}},
		{all(6, 2), []int{0, 9, 14}},
		{all(12, 2), []int{0, 21, 38, 51, 60, 65}},
		{all(6, 3), []int{0, 19}},
		{all(9, 9), []int{0}},
		{all(15, 1), first(15)},
		{api.Design{Points: 5, Blocks: [][]int{nil, {0, 1}, {0, 1}, nil, {2, 3, 4}, {0, 1, 2, 3, 4}}}, []int{1, 4}},
		{api.Design{Points: 5, Blocks: [][]int{{0, 1, 2, 3, 4}, {0, 1}, {2, 3, 4}}}, []int{0}},
		{api.Design{Points: 4, Blocks: [][]int{{3}, {0, 1}, {2, 3}, {2}, {0}, {1}}}, []int{0, 1, 3}},
		{api.Design{Points: 4, Blocks: [][]int{{2, 3}, {0}, {0, 1}, {3}, {1}, {2}}}, []int{0, 1, 4}},
	} {
		got, e := design.Parallel(c.d)
		wantList(t, name("Parallel", c.d), got, e, c.want)
	}
	for _, d := range []api.Design{seven(), hyperplanes(3, 3), hyperplanes(2, 4), all(9, 2), all(9, 4), all(9, 5), moved(11, 1, 3, 4, 5, 9)} {
		got, e := design.Parallel(d)
		wantNoList(t, name("Parallel", d), got, e, api.ErrNone)
	}
}

// TestParallelOfLines has D4: the lines of the space of 15 points can be cut into (Kirkman's) days, so that there are five that meet nowhere.
func TestParallelOfLines(t *testing.T) {
	for start := range 5 {
		d := mixedBlocks(binaryLines(), start)
		if !wantParallel(t, d) {
			t.Errorf("%s: it is known that there is one", name("Parallel", d))
		}
	}
}

// TestParallelOfNothing has D4's ErrNone: no blocks, empty ones alone, and a point that lies in none.
func TestParallelOfNothing(t *testing.T) {
	for n := 1; n <= 15; n++ {
		var apart [][]int
		for p := range n {
			apart = append(apart, []int{p})
		}
		for _, blocks := range [][][]int{nil, {nil}, make([][]int, 200), apart[1:], apart[:n-1]} {
			got, e := design.Parallel(api.Design{Points: n, Blocks: blocks})
			wantNoList(t, "Parallel of too little", got, e, api.ErrNone)
		}
	}
}

// TestParallelOfManyPoints has D4's ErrFull, ahead of ErrNone.
func TestParallelOfManyPoints(t *testing.T) {
	for n := 1; n <= 40; n++ {
		whole := first(n)
		for _, blocks := range [][][]int{{whole}, nil} {
			got, e := design.Parallel(api.Design{Points: n, Blocks: blocks})
			switch {
			case n > 15:
				wantNoList(t, "Parallel of many points", got, e, api.ErrFull)
			case blocks == nil:
				wantNoList(t, "Parallel of no blocks", got, e, api.ErrNone)
			default:
				wantList(t, "Parallel of the whole", got, e, []int{0})
			}
		}
	}
}

// TestParallelEndsSoon has P1 where it is hardest: an odd number of points and 200 blocks of even size, which cut nothing, though there are very many beginnings.
func TestParallelEndsSoon(t *testing.T) {
	d := all(15, 2)
	more := all(15, 4).Blocks
	for i := 0; len(d.Blocks) < 200; i += 14 {
		d.Blocks = append(d.Blocks, more[i])
	}
	for start := range 3 {
		got, e := design.Parallel(mixedBlocks(d, start))
		wantNoList(t, "Parallel of even blocks", got, e, api.ErrNone)
	}
	one := mixedBlocks(d, 9)
	one.Blocks[199] = []int{7}
	got, e := design.Parallel(one)
	if e != api.OK || !slices.Contains(got, 199) {
		t.Errorf("Parallel of even blocks and one point: got %v, error %d", got, e)
	}
}

// TestParallelEndsSoonOfTheSame has P1: each of seven pairs is there 28 times, and the last point lies in none, so that whoever tries what cannot be cut again does so very often.
func TestParallelEndsSoonOfTheSame(t *testing.T) {
	var pairs [][]int
	for p := 0; p < 14; p += 2 {
		pairs = append(pairs, []int{p, p + 1})
	}
	d := api.Design{Points: 15, Blocks: slices.Repeat(pairs, 28)}
	got, e := design.Parallel(d)
	wantNoList(t, "Parallel of pairs", got, e, api.ErrNone)
	d.Blocks = append(d.Blocks, []int{14})
	got, e = design.Parallel(d)
	wantList(t, "Parallel of pairs and one point", got, e, []int{0, 1, 2, 3, 4, 5, 6, 196})
}
