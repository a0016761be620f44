package design_test

import (
	"fmt"
	"math"
	"slices"
	"testing"

	"parterre/api"
	"parterre/design"
)

// TestExampleOfTheChapter has the table behind D5.
func TestExampleOfTheChapter(t *testing.T) {
	k, lambda, e := design.Level(seven(), 2)
	wantLevel(t, "Level at 2", k, lambda, e, 3, 1)
	k, lambda, e = design.Level(seven(), 3)
	wantNoLevel(t, "Level at 3", k, lambda, e, api.ErrNone)
	list, e := design.Meets(seven())
	wantList(t, "Meets", list, e, []int{1})
	d, e := design.Dual(seven())
	if e != api.OK || d.Points != 7 || !slices.Equal(d.Blocks[0], []int{0, 4, 6}) {
		t.Errorf("Dual: got %v, error %d", d, e)
	}
	d, e = design.Residual(seven(), 0)
	if e != api.OK || d.Points != 4 || len(d.Blocks) != 6 || !slices.Equal(d.Blocks[0], []int{0, 1}) {
		t.Errorf("Residual: got %v, error %d", d, e)
	}
	d, e = design.Derived(seven(), 0)
	wantDesign(t, "Derived", d, e, api.Design{Points: 6, Blocks: [][]int{{0, 2}, {3, 4}, {1, 5}}})
}

// made gives the designs that are made of one.
func made(d api.Design, x int) []api.Design {
	var out []api.Design
	for _, one := range []func(api.Design) (api.Design, api.Errno){
		design.Complement,
		design.Dual,
		func(d api.Design) (api.Design, api.Errno) { return design.Derived(d, x) },
		func(d api.Design) (api.Design, api.Errno) { return design.Residual(d, x) },
	} {
		got, _ := one(d)
		out = append(out, got)
	}
	return out
}

// answers tells all that is asked of a design and a number, as text.
func answers(d api.Design, x int) string {
	k, lambda, e := design.Level(d, x)
	told := []any{design.Check(d), k, lambda, e, made(d, x)}
	for _, ask := range []func(api.Design) ([]int, api.Errno){design.Meets, design.Parallel} {
		got, e := ask(d)
		told = append(told, got, e)
	}
	return fmt.Sprint(told...)
}

// padded has room and other numbers behind each block, and other blocks behind the last.
func padded(d api.Design) api.Design {
	var blocks [][]int
	for _, b := range d.Blocks {
		blocks = append(blocks, append(slices.Clone(b), -7, 99, 0)[:len(b)])
	}
	blocks = append(blocks, []int{5, 3}, []int{99})
	return api.Design{Points: d.Points, Blocks: blocks[:len(d.Blocks)]}
}

// behind tells all that lies in the memory of a design's lists.
func behind(d api.Design) string {
	var told []any
	for _, b := range d.Blocks[:cap(d.Blocks)] {
		told = append(told, len(b), b[:cap(b)])
	}
	return fmt.Sprint(told...)
}

// TestNothingIsWritten has P2 and P4: the lists, and what lies behind their length, stay and are not read; and the same is told again.
func TestNothingIsWritten(t *testing.T) {
	for _, d := range []api.Design{seven(), affine(3), strewn(9, 12, 3, 4)} {
		p := padded(d)
		was := behind(p)
		for x := range 5 {
			want := answers(d, x)
			for range 2 {
				if told := answers(p, x); told != want {
					t.Errorf("got %s, want %s", told, want)
				}
			}
		}
		if now := behind(p); now != was {
			t.Errorf("written into: %s, was %s", now, was)
		}
	}
}

// TestNothingIsWrittenMeanwhile has P2: designs are read by many at once, and none may write into them even for a while (the race detector tells).
func TestNothingIsWrittenMeanwhile(t *testing.T) {
	d := padded(affine(3))
	want := answers(d, 2)
	told := make(chan string)
	for range 8 {
		go func() { told <- answers(d, 2) }()
	}
	for range 8 {
		if got := <-told; got != want {
			t.Errorf("got %s, want %s", got, want)
		}
	}
}

// TestNothingIsKept has P2: what is told hangs on what the design has now.
func TestNothingIsKept(t *testing.T) {
	d := affine(3)
	want := answers(affine(3), 2)
	for start := range 5 {
		other := strewn(9, 12, 3, start)
		copy(d.Blocks, other.Blocks)
		if got := answers(d, 2); got != answers(other, 2) {
			t.Errorf("got %s", got)
		}
		copy(d.Blocks, affine(3).Blocks)
		if got := answers(d, 2); got != want {
			t.Errorf("got %s, want %s", got, want)
		}
	}
}

// TestWhatComesOutIsFresh has P2: whoever writes into one list of an answer, or behind its length, changes no other one of it, nothing that was handed in, and nothing that is told next.
func TestWhatComesOutIsFresh(t *testing.T) {
	for _, d := range []api.Design{seven(), affine(3), {Points: 4, Blocks: [][]int{{1}, {0, 2}, {1}, nil, {0, 1, 3}}}} {
		was := fmt.Sprint(d)
		for number, one := range made(d, 1) {
			for i := range one.Blocks {
				again := made(d, 1)[number]
				spoil(again.Blocks[i])
				for j, b := range one.Blocks {
					if j != i && !slices.Equal(again.Blocks[j], b) {
						t.Errorf("%s: what is made as number %d has list %d in the memory of list %d", name("design", d), number, j, i)
					}
				}
			}
			if again := made(d, 1)[number]; !same(one, again) {
				t.Errorf("%s: got %v, then %v", name("design", d), one, again)
			}
		}
		for _, ask := range []func(api.Design) ([]int, api.Errno){design.Meets, design.Parallel} {
			got, e := ask(d)
			want := slices.Clone(got)
			spoil(got)
			again, e1 := ask(d)
			if !slices.Equal(again, want) || e != e1 {
				t.Errorf("%s: got %v, then %v", name("design", d), want, again)
			}
		}
		if now := fmt.Sprint(d); now != was {
			t.Errorf("what was handed in is written into: %s, was %s", now, was)
		}
	}
}

// spoil writes into all of a list's memory.
func spoil(list []int) {
	list = list[:cap(list)]
	for i := range list {
		list[i] = -1
	}
}

// TestEmptyAndNil has P4: an empty list and nil are the same.
func TestEmptyAndNil(t *testing.T) {
	for n := 1; n <= 5; n++ {
		for x := -1; x <= 5; x++ {
			if one, other := answers(api.Design{Points: n}, x), answers(api.Design{Points: n, Blocks: [][]int{}}, x); one != other {
				t.Errorf("got %s and %s", one, other)
			}
			one := answers(api.Design{Points: n, Blocks: [][]int{nil, {0}, nil}}, x)
			other := answers(api.Design{Points: n, Blocks: [][]int{{}, {0}, {}}}, x)
			if one != other {
				t.Errorf("got %s and %s", one, other)
			}
		}
	}
}

// TestNoNumberPanics has P1: each face at numbers from end to end, in each place.
func TestNoNumberPanics(t *testing.T) {
	ends := []int{math.MinInt, -1, 0, 1, 2, 7, 15, 16, 39, 40, 41, 63, 64, 65, 200, 1 << 32, math.MaxInt}
	for _, n := range ends {
		for _, x := range ends {
			for _, y := range ends {
				answers(api.Design{Points: n, Blocks: [][]int{{x}, {0, y}, nil}}, y)
				answers(api.Design{Points: n, Blocks: [][]int{{x, y}}}, x)
			}
			answers(api.Design{Points: n}, x)
		}
		answers(seven(), n)
		answers(hyperplanes(3, 4), n)
		answers(strewn(15, 200, 3, 1), n)
		answers(api.Design{Points: 40, Blocks: make([][]int, 200)}, n)
	}
}
