package hada_test

import (
	"fmt"
	"math"
	"slices"
	"testing"

	"parterre/api"
	"parterre/hada"
)

// TestExampleOfTheChapter has the table behind H4.
func TestExampleOfTheChapter(t *testing.T) {
	s, e := hada.Sylvester(1)
	wantSquare(t, "Sylvester of 1", s, e, cells(2, 1, 1, 1, -1), api.OK)
	n, e := hada.Excess(s)
	wantNumber(t, "Excess of it", n, e, 2, api.OK)
	p, e := hada.Paley(3)
	wantError(t, "Paley of 3", e, api.OK)
	n, e = hada.Excess(p)
	wantNumber(t, "Excess of Paley of 3", n, e, 4, api.OK)
}

// answers tells all that is asked of two matrices, as text.
func answers(a, b api.Square) string {
	product, e := hada.Product(a, b)
	even, e1 := hada.Even(a)
	excess, e2 := hada.Excess(a)
	blocks, e3 := hada.Blocks(a)
	return fmt.Sprint(hada.Check(a), product, e, even, e1, excess, e2, blocks, e3)
}

// asked are good and wrong ones.
func asked() []api.Square {
	out := []api.Square{
		{}, cells(1, 1), cells(1, -1), cells(1, 0), cells(2, 1, 1, -1, 1), cells(2, 1, 1, 1, 1), cells(2, 1, 1, -1), cells(25),
		mixed(doubled(2), 1), mixed(paley(7), 2), mixed(paley(11), 3), mixed(paley(19), 4), mixed(paley(23), 5),
	}
	return append(out, instead(out[12], 575, 2), instead(out[9], 63, -out[9].Cells[63]))
}

// padded has room, and other numbers, behind its cells.
func padded(s api.Square) api.Square {
	return api.Square{Side: s.Side, Cells: append(slices.Clone(s.Cells), -7, 99, 0, 1)[:len(s.Cells)]}
}

// behind tells all that lies in the memory of a matrix.
func behind(s api.Square) string {
	return fmt.Sprint(s.Side, len(s.Cells), s.Cells[:cap(s.Cells)])
}

// TestNothingIsWritten has P2 and P4 of the document: the cells, and what lies behind their length, stay and are not read; and the same is told again.
func TestNothingIsWritten(t *testing.T) {
	for _, a := range asked() {
		for _, b := range asked() {
			want := answers(a, b)
			one, other := padded(a), padded(b)
			was, wasOther := behind(one), behind(other)
			for range 2 {
				if told := answers(one, other); told != want {
					t.Errorf("got %s, want %s", told, want)
				}
			}
			if behind(one) != was || behind(other) != wasOther {
				t.Errorf("written into: %v, %v", a, b)
			}
		}
	}
}

// TestSharedMemory has P2 of the document: the cells of the two that are handed in may be the same ones.
func TestSharedMemory(t *testing.T) {
	for _, a := range asked() {
		want := answers(clone(a), clone(a))
		if got := answers(a, a); got != want {
			t.Errorf("got %s, want %s", got, want)
		}
	}
}

// TestNothingIsWrittenMeanwhile has P2 of the document: what is handed in is read by many at once, and none may write into it even for a while (the race detector tells).
func TestNothingIsWrittenMeanwhile(t *testing.T) {
	for _, b := range []api.Square{padded(mixed(paley(11), 3)), padded(mixed(doubled(1), 3))} {
		a := padded(mixed(paley(11), 6))
		want := answers(a, b)
		told := make(chan string)
		for range 8 {
			go func() { told <- answers(a, b) }()
		}
		for range 8 {
			if got := <-told; got != want {
				t.Errorf("got %s, want %s", got, want)
			}
		}
	}
}

// TestNothingIsKept has P2 of the document: what is told hangs on what is there now.
func TestNothingIsKept(t *testing.T) {
	a, b := cells(4, make([]int, 16)...), cells(2, make([]int, 4)...)
	for start := range 40 {
		nowA, nowB := mixed(paley(3), start), mixed(doubled(1), start)
		if start%5 == 4 {
			nowA = instead(nowA, start%16, -nowA.Cells[start%16])
		}
		want := answers(nowA, nowB)
		copy(a.Cells, nowA.Cells)
		copy(b.Cells, nowB.Cells)
		if got := answers(a, b); got != want {
			t.Errorf("got %s, want %s", got, want)
		}
	}
}

// spoil writes into all of a list's memory.
func spoil(list []int) {
	list = list[:cap(list)]
	for i := range list {
		list[i] = -5
	}
}

// makers are the faces that answer a matrix.
func makers(a, b api.Square) map[string]func() (api.Square, api.Errno) {
	return map[string]func() (api.Square, api.Errno){
		"Sylvester": func() (api.Square, api.Errno) { return hada.Sylvester(3) },
		"Paley":     func() (api.Square, api.Errno) { return hada.Paley(7) },
		"Product":   func() (api.Square, api.Errno) { return hada.Product(a, b) },
		"Even":      func() (api.Square, api.Errno) { return hada.Even(a) },
	}
}

// TestWhatComesOutIsFresh has P2 of the document: whoever writes into what is answered, or behind its length, changes nothing that was handed in, and nothing that is told next. What is handed in is even, and times 1, too, so that it comes out as it went in.
func TestWhatComesOutIsFresh(t *testing.T) {
	for _, a := range append(asked(), doubled(2), even(paley(11))) {
		for _, b := range []api.Square{cells(1, 1), cells(1, -1), doubled(1)} {
			for _, two := range [][]api.Square{{a, b}, {b, a}} {
				was, wasOther := behind(two[0]), behind(two[1])
				for call, ask := range makers(two[0], two[1]) {
					want, e := ask()
					want = clone(want)
					got, _ := ask()
					spoil(got.Cells)
					again, e1 := ask()
					wantSquare(t, name(call+" again", two), again, e1, want, e)
				}
				if behind(two[0]) != was || behind(two[1]) != wasOther {
					t.Errorf("what was handed in is written into: %v", two)
				}
			}
		}
	}
}

// TestBlocksAreFresh has P2 of the document: whoever writes into one block, or behind its length, changes no other one, and nothing that is told next.
func TestBlocksAreFresh(t *testing.T) {
	for _, s := range some() {
		was := behind(s)
		want, e := hada.Blocks(s)
		for i := range want.Blocks {
			got, _ := hada.Blocks(s)
			spoil(got.Blocks[i])
			for j, block := range got.Blocks {
				if j != i && !slices.Equal(block, want.Blocks[j]) {
					t.Errorf("%s: block %d is in the memory of block %d", name("Blocks", s), j, i)
				}
			}
		}
		got, _ := hada.Blocks(s)
		clear(got.Blocks[:cap(got.Blocks)])
		got, e1 := hada.Blocks(s)
		wantDesign(t, name("Blocks again", s), got, e1, want, e)
		if behind(s) != was {
			t.Errorf("what was handed in is written into: %v", s)
		}
	}
}

// TestEmptyAndNil has P4 of the document: an empty list and nil are the same.
func TestEmptyAndNil(t *testing.T) {
	for side := -1; side <= 26; side++ {
		one, other := api.Square{Side: side}, api.Square{Side: side, Cells: []int{}}
		for _, s := range []api.Square{cells(1, 1), {}} {
			if a, b := answers(one, s), answers(other, s); a != b {
				t.Errorf("got %s and %s", a, b)
			}
			if a, b := answers(s, one), answers(s, other); a != b {
				t.Errorf("got %s and %s", a, b)
			}
		}
	}
}

// TestNoNumberPanics has P1 of the document: each face at numbers from end to end, in each place.
func TestNoNumberPanics(t *testing.T) {
	ends := []int{math.MinInt, math.MinInt + 1, math.MinInt / 2, -25, -2, -1, 0, 1, 2, 3, 4, 5, 8, 23, 24, 25, 63, 64, 1 << 31, 1 << 32, 1 << 62, math.MaxInt / 2, math.MaxInt - 1, math.MaxInt}
	good := []api.Square{cells(1, -1), doubled(1), paley(3), paley(23)}
	for _, x := range ends {
		hada.Sylvester(x)
		hada.Paley(x)
		for _, y := range ends {
			for _, long := range []int{0, 1, 2, 4, 16, 17} {
				s := cells(x, slices.Repeat([]int{y}, long)...)
				for _, g := range good {
					answers(s, g)
					answers(g, s)
				}
				answers(s, s)
			}
			for _, g := range good {
				for _, place := range []int{0, len(g.Cells) / 2, len(g.Cells) - 1} {
					s := instead(instead(g, 0, y), place, x)
					answers(s, g)
					answers(g, s)
				}
			}
		}
	}
}
