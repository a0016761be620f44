package triple_test

import (
	"fmt"
	"math"
	"slices"
	"testing"

	"parterre/api"
	"parterre/triple"
)

// TestExampleOfTheChapter has the table behind T5.
func TestExampleOfTheChapter(t *testing.T) {
	seven, e := triple.Make(7)
	if text := fmt.Sprint(seven.Blocks); text != "[[0 1 3] [0 2 4] [0 5 6] [1 2 6] [1 4 5] [2 3 5] [3 4 6]]" || e != api.OK {
		t.Errorf("Make of 7: got %s, error %d", text, e)
	}
	n, e := triple.Passes(seven)
	wantNumber(t, "Passes of Make of 7", n, e, 7)
	nine, _ := triple.Make(9)
	n, e = triple.Passes(nine)
	wantNumber(t, "Passes of Make of 9", n, e, 0)
	d, e := triple.Grow(7, nil)
	if e != api.OK || fmt.Sprint(d.Blocks[:3]) != "[[0 1 2] [0 3 4] [0 5 6]]" {
		t.Errorf("Grow of 7: got %v, error %d", d.Blocks, e)
	}
}

// makers give the designs that are made of one.
func makers() []func(d api.Design) (api.Design, api.Errno) {
	return []func(api.Design) (api.Design, api.Errno){
		triple.Double,
		func(d api.Design) (api.Design, api.Errno) { return triple.Product(d, d) },
		func(d api.Design) (api.Design, api.Errno) { return triple.Product(d, of(3, []int{0, 1, 2})) },
		func(d api.Design) (api.Design, api.Errno) { return triple.Product(of(3, []int{0, 1, 2}), d) },
		func(d api.Design) (api.Design, api.Errno) { return triple.Grow(d.Points, d.Blocks) },
		func(d api.Design) (api.Design, api.Errno) { return triple.Make(d.Points) },
	}
}

// answers tells all that is asked of a design, as text.
func answers(d api.Design) string {
	n, e := triple.Passes(d)
	told := []any{triple.Check(d), n, e}
	for _, one := range makers() {
		got, e := one(d)
		told = append(told, got, e)
	}
	return fmt.Sprint(told...)
}

// padded has room and other numbers behind each block, and other blocks behind the last.
func padded(d api.Design) api.Design {
	var blocks [][]int
	for _, b := range d.Blocks {
		blocks = append(blocks, append(slices.Clone(b), -7, 99, 0)[:len(b)])
	}
	blocks = append(blocks, []int{5, 3}, []int{99})
	return api.Design{Points: d.Points, Blocks: blocks[:len(d.Blocks)]}
}

// behind tells all that lies in the memory of a design's lists.
func behind(d api.Design) string {
	var told []any
	for _, b := range d.Blocks[:cap(d.Blocks)] {
		told = append(told, len(b), b[:cap(b)])
	}
	return fmt.Sprint(told...)
}

// several are good and wrong ones, of which some are not in order.
func several() []api.Design {
	nine := of(9, ternary(9).Blocks[3:8]...)
	return []api.Design{of(1), of(3, []int{0, 1, 2}), strewn(binary(7), 1), strewn(ternary(9), 2), strewn(thirteen(), 3), binary(15), bose(33), nine, of(7, []int{4, 5, 6}, []int{0, 1, 2})}
}

// TestNothingIsWritten has P2 and P4: the lists, and what lies behind their length, stay and are not read; and the same is told again.
func TestNothingIsWritten(t *testing.T) {
	for _, d := range several() {
		p := padded(d)
		was, want := behind(p), answers(d)
		for range 2 {
			if told := answers(p); told != want {
				t.Errorf("got %s, want %s", told, want)
			}
		}
		if now := behind(p); now != was {
			t.Errorf("written into: %s, was %s", now, was)
		}
	}
}

// TestNothingIsWrittenMeanwhile has P2: designs are read by many at once, and none may write into them even for a while (the race detector tells).
func TestNothingIsWrittenMeanwhile(t *testing.T) {
	d := padded(strewn(ternary(9), 5))
	want := answers(d)
	told := make(chan string)
	for range 8 {
		go func() { told <- answers(d) }()
	}
	for range 8 {
		if got := <-told; got != want {
			t.Errorf("got %s, want %s", got, want)
		}
	}
}

// TestNothingIsKept has P2: what is told hangs on what the design has now.
func TestNothingIsKept(t *testing.T) {
	d := ternary(9)
	want := answers(ternary(9))
	for start := range 5 {
		other := strewn(ternary(9), start)
		if start == 3 {
			other.Blocks[2] = []int{0, 1}
		}
		copy(d.Blocks, other.Blocks)
		if got := answers(d); got != answers(other) {
			t.Errorf("got %s", got)
		}
		copy(d.Blocks, ternary(9).Blocks)
		if got := answers(d); got != want {
			t.Errorf("got %s, want %s", got, want)
		}
	}
}

// TestWhatComesOutIsFresh has P2: whoever writes into one list of an answer, or behind its length, changes no other one of it, nothing that was handed in, and nothing that is told next.
func TestWhatComesOutIsFresh(t *testing.T) {
	for _, d := range several() {
		was := fmt.Sprint(d)
		for number, one := range makers() {
			want, e := one(d)
			for i := range want.Blocks {
				got, _ := one(d)
				spoil(got.Blocks[i])
				for j, b := range want.Blocks {
					if j != i && !slices.Equal(got.Blocks[j], b) {
						t.Errorf("%s: what is made as number %d has list %d in the memory of list %d", name("design", d), number, j, i)
					}
				}
			}
			if again, e1 := one(d); !same(want, again) || e != e1 {
				t.Errorf("%s: got %v, then %v", name("design", d), want, again)
			}
		}
		if now := fmt.Sprint(d); now != was {
			t.Errorf("what was handed in is written into: %s, was %s", now, was)
		}
	}
}

// spoil writes into all of a list's memory.
func spoil(list []int) {
	list = list[:cap(list)]
	for i := range list {
		list[i] = -1
	}
}

// TestEmptyAndNil has P4: an empty list and nil are the same.
func TestEmptyAndNil(t *testing.T) {
	for n := -1; n <= 10; n++ {
		if one, other := answers(api.Design{Points: n}), answers(api.Design{Points: n, Blocks: [][]int{}}); one != other {
			t.Errorf("got %s and %s", one, other)
		}
		one := answers(of(n, nil, []int{0, 1, 2}, nil))
		other := answers(of(n, []int{}, []int{0, 1, 2}, []int{}))
		if one != other {
			t.Errorf("got %s and %s", one, other)
		}
	}
}

// TestNoNumberPanics has P1: each face at numbers from end to end, in each place.
func TestNoNumberPanics(t *testing.T) {
	ends := []int{math.MinInt, math.MinInt / 2, -1, 0, 1, 2, 3, 7, 8, 9, 10, 33, 34, 39, 40, 41, 64, 200, 1 << 32, math.MaxInt / 2, math.MaxInt}
	for _, n := range ends {
		for _, x := range ends {
			for _, y := range ends {
				answers(of(n, []int{0, x, y}))
				answers(of(n, []int{x, 1, y}, nil))
				answers(of(n, []int{0, 1, 2}, []int{x, y, 8}))
			}
		}
		answers(of(n))
		answers(of(n, bose(33).Blocks...))
		answers(of(n, make([][]int, 200)...))
		answers(of(n, slices.Repeat([][]int{{0, 1, 2}}, 200)...))
	}
}
