package plane_test

import (
	"fmt"
	"math"
	"slices"
	"testing"

	"parterre/api"
	"parterre/field"
	"parterre/plane"
)

// TestExampleOfTheChapter has the table behind P4.
func TestExampleOfTheChapter(t *testing.T) {
	f, _ := field.Least(2, 1)
	d, e := plane.Make(f)
	wantList(t, "Make's first block", d.Blocks[0], e, []int{1, 3, 5}, api.OK)
	n, e := plane.Check(d)
	wantNumber(t, "Check", n, e, 2, api.OK)
	n, e = plane.Join(d, 0, 1)
	wantNumber(t, "Join of 0, 1", n, e, 3, api.OK)
	l, e := plane.Conic(f)
	wantList(t, "Conic", l, e, []int{0, 3, 6}, api.OK)
}

// answers tells all that is asked of a design, two numbers and a list, as text.
func answers(d api.Design, a, b int, points []int) string {
	n, e := plane.Check(d)
	block, e1 := plane.Join(d, a, b)
	point, e2 := plane.Meet(d, a, b)
	arc, e3 := plane.Arc(d, points)
	return fmt.Sprint(n, e, block, e1, point, e2, arc, e3)
}

// fieldText tells all that is made of a field, as text.
func fieldText(f api.Field) string {
	d, e := plane.Make(f)
	l, e1 := plane.Conic(f)
	return fmt.Sprint(d, e, l, e1)
}

// padded has room and other numbers behind each block, and other blocks behind the last.
func padded(d api.Design) api.Design {
	var blocks [][]int
	for _, b := range d.Blocks {
		blocks = append(blocks, append(slices.Clone(b), -7, 99, 0)[:len(b)])
	}
	blocks = append(blocks, []int{5, 3}, []int{99})
	return of(d.Points, blocks[:len(d.Blocks)]...)
}

// behind tells all that lies in the memory of a design's lists.
func behind(d api.Design) string {
	var told []any
	for _, b := range d.Blocks[:cap(d.Blocks)] {
		told = append(told, len(b), b[:cap(b)])
	}
	return fmt.Sprint(told...)
}

// several are planes, and others.
func several() []api.Design {
	out := []api.Design{affine(3), pencil(7), without(made(3), 5), instead(made(2), 0, []int{5, 3, 1}), of(1), of(3, upTo(3))}
	for _, k := range planes() {
		out = append(out, k.Design)
	}
	return out
}

// TestNothingIsWritten has P2 and P4 of the document: the lists, and what lies behind their length, stay and are not read; and the same is told again.
func TestNothingIsWritten(t *testing.T) {
	for _, d := range several() {
		p := padded(d)
		was := behind(p)
		for _, points := range [][]int{nil, {0, 1}, {0, 1, 2}, {0, 3, 6}, {2, 1}, {0, 99}} {
			memory := append(slices.Clone(points), 3, -7, 99, 0)
			wasList, want := slices.Clone(memory), answers(d, 0, 1, points)
			for range 2 {
				if told := answers(p, 0, 1, memory[:len(points)]); told != want {
					t.Errorf("got %s, want %s", told, want)
				}
			}
			if !slices.Equal(memory, wasList) {
				t.Errorf("written into: %v, was %v", memory, wasList)
			}
		}
		if now := behind(p); now != was {
			t.Errorf("written into: %s, was %s", now, was)
		}
	}
	memory := []int{1, 1, 0, -7, 99}
	f := api.Field{Prime: 2, Degree: 2, Low: memory[:2]}
	want := fieldText(four())
	for range 2 {
		if told := fieldText(f); told != want {
			t.Errorf("got %s, want %s", told, want)
		}
	}
	if !slices.Equal(memory, []int{1, 1, 0, -7, 99}) {
		t.Errorf("written into %v", memory)
	}
}

// TestNothingIsWrittenMeanwhile has P2 of the document: what is handed in is read by many at once, and none may write into it even for a while (the race detector tells).
func TestNothingIsWrittenMeanwhile(t *testing.T) {
	d, points, f := padded(mixed(made(4), 3)), []int{0, 5, 10, 16, 19}, four()
	want := answers(d, 4, 9, points) + fieldText(f)
	told := make(chan string)
	for range 8 {
		go func() { told <- answers(d, 4, 9, points) + fieldText(f) }()
	}
	for range 8 {
		if got := <-told; got != want {
			t.Errorf("got %s, want %s", got, want)
		}
	}
}

// TestNothingIsKept has P2 of the document: what is told hangs on what is there now.
func TestNothingIsKept(t *testing.T) {
	d, points := made(3), []int{0, 4, 8, 11}
	want := answers(made(3), 2, 7, slices.Clone(points))
	for start := range 5 {
		for i, other := range []api.Design{mixed(made(3), start), instead(made(3), start, upTo(4)), instead(made(3), start, nil)} {
			copy(d.Blocks, other.Blocks)
			points[3] = 9 + i
			if got, now := answers(d, 2, 7, points), answers(other, 2, 7, slices.Clone(points)); got != now {
				t.Errorf("got %s, want %s", got, now)
			}
			copy(d.Blocks, made(3).Blocks)
			points[3] = 11
			if got := answers(d, 2, 7, points); got != want {
				t.Errorf("got %s, want %s", got, want)
			}
		}
	}
	f := numberField(2, 0)
	before := fieldText(f)
	f.Low[0] = 2
	if wrong := fieldText(f); wrong != "{0 []} 1 [] 1" {
		t.Errorf("got %s", wrong)
	}
	f.Low[0] = 1
	if after := fieldText(f); after != before {
		t.Errorf("got %s, want %s", after, before)
	}
}

// spoil writes into all of a list's memory.
func spoil(list []int) {
	list = list[:cap(list)]
	for i := range list {
		list[i] = -1
	}
}

// TestWhatComesOutIsFresh has P2 of the document: whoever writes into one list of an answer, or behind its length, changes no other one of it, nothing that was handed in, and nothing that is told next.
func TestWhatComesOutIsFresh(t *testing.T) {
	for _, f := range smallFields() {
		was := slices.Clone(f.Low)
		want := made(order(f))
		for i := range want.Blocks {
			got, _ := plane.Make(f)
			spoil(got.Blocks[i])
			for j, b := range want.Blocks {
				if j != i && !slices.Equal(got.Blocks[j], b) {
					t.Errorf("%s: list %d is in the memory of list %d", name("Make", f), j, i)
				}
			}
		}
		got, _ := plane.Make(f)
		clear(got.Blocks[:cap(got.Blocks)])
		got, e := plane.Make(f)
		wantDesign(t, name("Make again", f), got, e, want, api.OK)
		list, _ := plane.Conic(f)
		spoil(list)
		list, e = plane.Conic(f)
		wantList(t, name("Conic again", f), list, e, conic(order(f)), api.OK)
		if !slices.Equal(f.Low, was) {
			t.Errorf("what was handed in is written into: %v, was %v", f.Low, was)
		}
	}
}

// TestEmptyAndNil has P4 of the document: an empty list and nil are the same.
func TestEmptyAndNil(t *testing.T) {
	for n := -1; n <= 8; n++ {
		for _, two := range [][2]api.Design{
			{of(n), api.Design{Points: n, Blocks: [][]int{}}},
			{of(n, nil, nil), of(n, []int{}, []int{})},
			{with(made(2), nil), with(made(2), []int{})},
			{made(2), made(2)},
		} {
			if one, other := answers(two[0], 0, n, nil), answers(two[1], 0, n, []int{}); one != other {
				t.Errorf("got %s and %s", one, other)
			}
		}
		if one, other := fieldText(api.Field{Prime: 2, Degree: n}), fieldText(api.Field{Prime: 2, Degree: n, Low: []int{}}); one != other {
			t.Errorf("got %s and %s", one, other)
		}
	}
}

// TestNoNumberPanics has P1 of the document: each face at numbers from end to end, in each place.
func TestNoNumberPanics(t *testing.T) {
	ends := []int{math.MinInt, math.MinInt + 1, -1, 0, 1, 2, 3, 7, 12, 30, 31, 39, 40, 41, 63, 64, 65, 200, 1 << 32, math.MaxInt - 1, math.MaxInt}
	for _, x := range ends {
		for _, y := range ends {
			for _, z := range ends {
				answers(of(x, []int{y}, []int{0, z}, nil), y, z, []int{y, z})
				answers(of(x, []int{y, z}), x, y, []int{0, y, z})
			}
			for n := range 8 {
				fieldText(api.Field{Prime: x, Degree: y, Low: make([]int, n)})
			}
			fieldText(api.Field{Prime: 2, Degree: 2, Low: []int{x, y}})
			for q := 2; q <= 5; q++ {
				answers(made(q), x, y, []int{x, y})
			}
		}
		answers(of(x, made(5).Blocks...), 0, 1, upTo(31))
		answers(of(x, make([][]int, 200)...), 0, 1, nil)
		answers(made(5), 0, 1, slices.Repeat([]int{x}, 1000))
		fieldText(numberField(5, x))
	}
}
