package group_test

import (
	"fmt"
	"math"
	"slices"
	"testing"

	"parterre/api"
	"parterre/group"
)

// TestNumbersOfTheChapter has P3: what has a name stands in package api.
func TestNumbersOfTheChapter(t *testing.T) {
	if api.MaxMoved != 7 || api.MaxMakers != 4 {
		t.Errorf("got %d and %d", api.MaxMoved, api.MaxMakers)
	}
}

// wantError asks all faces for one error, and for nothing beside it (P1).
func wantError(t *testing.T, m maker, want api.Errno) {
	t.Helper()
	if e := group.Check(m.n, m.makers); e != want {
		t.Errorf("%s: got %d, want %d", name("Check", m), e, want)
	}
	for _, call := range []struct {
		name string
		call func(int, [][]int) (int, api.Errno)
	}{{"Order", group.Order}, {"Deep", group.Deep}, {"Centre", group.Centre}, {"Derived", group.Derived}} {
		if got, e := call.call(m.n, m.makers); e != want || got != 0 {
			t.Errorf("%s: got %d, error %d, want %d", name(call.name, m), got, e, want)
		}
	}
	if got, e := group.Orbits(m.n, m.makers); e != want || len(got) != 0 {
		t.Errorf("%s: got %v, error %d, want %d", name("Orbits", m), got, e, want)
	}
	if got, e := group.All(m.n, m.makers); e != want || len(got) != 0 {
		t.Errorf("%s: got %v, error %d, want %d", name("All", m), got, e, want)
	}
	if got, e := group.Fixed(m.n, m.makers); e != want || len(got) != 0 {
		t.Errorf("%s: got %v, error %d, want %d", name("Fixed", m), got, e, want)
	}
	if got, e := group.Primitive(m.n, m.makers); e != want || got {
		t.Errorf("%s: got %t, error %d, want %d", name("Primitive", m), got, e, want)
	}
	for _, a := range [][]int{nil, {0}, {1, 0}, stay(7), {0, 0}, {-1}, stay(13)} {
		if got, e := group.Has(m.n, m.makers, a); e != want || got {
			t.Errorf("%s of %v: got %t, error %d, want %d", name("Has", m), a, got, e, want)
		}
	}
	for _, k := range []int{0, 1, -1, math.MaxInt, math.MinInt} {
		if got, e := group.Element(m.n, m.makers, k); e != want || len(got) != 0 {
			t.Errorf("%s of %d: got %v, error %d, want %d", name("Element", m), k, got, e, want)
		}
	}
}

// TestHowManyPoints has G1's ErrRange, ahead of all that may be wrong with the makers.
func TestHowManyPoints(t *testing.T) {
	for _, n := range []int{0, -1, 8, 9, 12, 13, 1 << 32, -1 << 32, math.MaxInt, math.MinInt} {
		wantError(t, maker{n, nil}, api.ErrRange)
		wantError(t, maker{n, [][]int{stay(8)}}, api.ErrRange)
		wantError(t, maker{n, [][]int{nil}}, api.ErrRange)
		wantError(t, maker{n, [][]int{{0}, {0}, {0}, {0}, {0}}}, api.ErrRange)
		wantError(t, maker{n, [][]int{{0, 0}}}, api.ErrRange)
		wantError(t, maker{n, [][]int{stay(13)}}, api.ErrRange)
	}
	for n := 1; n <= api.MaxMoved; n++ {
		if e := group.Check(n, nil); e != api.OK {
			t.Errorf("Check(%d): error %d", n, e)
		}
	}
}

// TestHowManyMakers has G1's ErrFull, ahead of all that may be wrong with each maker.
func TestHowManyMakers(t *testing.T) {
	for n := 1; n <= api.MaxMoved; n++ {
		for number := range 5 {
			if e := group.Check(n, slices.Repeat([][]int{stay(n)}, number)); e != api.OK {
				t.Errorf("Check(%d) of %d makers: error %d", n, number, e)
			}
		}
		for _, number := range []int{5, 6, 1000} {
			for _, a := range [][]int{stay(n), nil, {-1}, slices.Repeat([]int{0}, 8), stay(13)} {
				wantError(t, maker{n, slices.Repeat([][]int{a}, number)}, api.ErrFull)
			}
		}
	}
}

type bad struct {
	a    []int
	want api.Errno
}

// bads are makers on 3 points, with what is said of them, where several are wrong what is said first.
func bads() []bad {
	return []bad{
		{stay(13), api.ErrFull}, {slices.Repeat([]int{-1}, 13), api.ErrFull}, {make([]int, 20), api.ErrFull},
		{[]int{0, 1, 3}, api.ErrRange}, {[]int{-1, 1, 2}, api.ErrRange}, {[]int{math.MinInt, 1, 2}, api.ErrRange}, {[]int{0, 1, math.MaxInt}, api.ErrRange},
		{[]int{0, 0, 3}, api.ErrRange}, {[]int{1}, api.ErrRange}, {[]int{4, 4, 0, 1}, api.ErrRange},
		{[]int{0, 0, 1}, api.ErrTwice}, {[]int{2, 1, 2}, api.ErrTwice}, {[]int{1, 1}, api.ErrTwice}, {make([]int, 12), api.ErrTwice}, {[]int{0, 1, 2, 2}, api.ErrTwice},
		{nil, api.ErrShape}, {[]int{0}, api.ErrShape}, {[]int{1, 0}, api.ErrShape}, {stay(4), api.ErrShape}, {turn(7), api.ErrShape}, {stay(12), api.ErrShape},
	}
}

// TestMakerByMaker has G1: all that is said of one maker comes ahead of all that is said of the next.
func TestMakerByMaker(t *testing.T) {
	good := []int{1, 2, 0}
	for _, b := range bads() {
		wantError(t, maker{3, [][]int{b.a}}, b.want)
		wantError(t, maker{3, [][]int{b.a, good, good, good}}, b.want)
		wantError(t, maker{3, [][]int{good, b.a, good}}, b.want)
		wantError(t, maker{3, [][]int{good, good, good, b.a}}, b.want)
		for _, c := range bads() {
			wantError(t, maker{3, [][]int{b.a, c.a}}, b.want)
			wantError(t, maker{3, [][]int{good, b.a, good, c.a}}, b.want)
		}
	}
}

// TestCheckOfAllLists has G1: of all lists of up to 3 small numbers, as one maker on 1 to 3 points.
func TestCheckOfAllLists(t *testing.T) {
	lists, last := [][]int{nil}, [][]int{nil}
	for range 3 {
		var longer [][]int
		for _, l := range last {
			for p := -1; p <= 3; p++ {
				longer = append(longer, append(slices.Clone(l), p))
			}
		}
		lists, last = append(lists, longer...), longer
	}
	for n := 1; n <= 3; n++ {
		for _, l := range lists {
			if e, want := group.Check(n, [][]int{l}), said(n, l); e != want {
				t.Errorf("Check(%d, %v): got %d, want %d", n, l, e, want)
			}
			if _, e := group.Has(n, nil, l); e != said(n, l) {
				t.Errorf("Has(%d) of %v: got error %d", n, l, e)
			}
		}
	}
}

// said goes by M1 and G1, of a list of few numbers.
func said(n int, l []int) api.Errno {
	rising := slices.Sorted(slices.Values(l))
	switch {
	case len(l) > 0 && (rising[0] < 0 || rising[len(l)-1] >= len(l)):
		return api.ErrRange
	case !slices.Equal(rising, stay(len(l))):
		return api.ErrTwice
	case len(l) != n:
		return api.ErrShape
	}
	return api.OK
}

// TestHasOfWhat has G2's errors of Has, behind those of the group.
func TestHasOfWhat(t *testing.T) {
	for _, makers := range [][][]int{nil, {{1, 2, 0}}, {{1, 2, 0}, {1, 0, 2}}} {
		for _, b := range bads() {
			if got, e := group.Has(3, makers, b.a); e != b.want || got {
				t.Errorf("Has(3, %v) of %v: got %t, error %d, want %d", makers, b.a, got, e, b.want)
			}
		}
	}
	for _, b := range bads() {
		for _, c := range bads() {
			if got, e := group.Has(3, [][]int{b.a}, c.a); e != b.want || got {
				t.Errorf("Has(3, %v) of %v: got %t, error %d, want %d", b.a, c.a, got, e, b.want)
			}
		}
	}
}

// answers tells all that a group answers, as text.
func answers(m maker, a []int, k int) string {
	order, e1 := group.Order(m.n, m.makers)
	has, e2 := group.Has(m.n, m.makers, a)
	element, e3 := group.Element(m.n, m.makers, k)
	orbits, e4 := group.Orbits(m.n, m.makers)
	deep, e5 := group.Deep(m.n, m.makers)
	primitive, e6 := group.Primitive(m.n, m.makers)
	centre, e7 := group.Centre(m.n, m.makers)
	derived, e8 := group.Derived(m.n, m.makers)
	fixed, e9 := group.Fixed(m.n, m.makers)
	return fmt.Sprint(group.Check(m.n, m.makers), order, has, element, orbits, deep, primitive, centre, derived, fixed, []api.Errno{e1, e2, e3, e4, e5, e6, e7, e8, e9})
}

// TestExampleOfTheChapter has the table behind G4.
func TestExampleOfTheChapter(t *testing.T) {
	got := answers(maker{4, [][]int{{1, 2, 3, 0}, {2, 1, 0, 3}}}, []int{0, 3, 2, 1}, 1)
	want := fmt.Sprint(api.OK, 8, true, []int{0, 3, 2, 1}, [][]int{{0, 1, 2, 3}}, 1, false, 2, 2, []int{5, 0, 2, 0, 1}, make([]api.Errno, 9))
	if got != want {
		t.Errorf("got %s, want %s", got, want)
	}
}

// TestNothingIsWritten has P2 and P4: the lists, and what lies behind their length, stay; and the same is told again.
func TestNothingIsWritten(t *testing.T) {
	fresh := func() ([]int, []int, []int, [][]int) {
		one, two, a := []int{1, 2, 3, 4, 0, -7, 99}, []int{0, 4, 3, 2, 1, 0, 5}, []int{4, 3, 2, 1, 0, 8, 8}
		return one, two, a, [][]int{one[:5], two[:5], {9, 9}, {-1}, nil}
	}
	one, two, a, makers := fresh()
	first := answers(maker{5, makers[:2]}, a[:5], 3)
	if second := answers(maker{5, makers[:2]}, a[:5], 3); second != first {
		t.Errorf("got %s, then %s", first, second)
	}
	wantOne, wantTwo, wantA, wantMakers := fresh()
	if !slices.Equal(one, wantOne) || !slices.Equal(two, wantTwo) || !slices.Equal(a, wantA) || !slices.EqualFunc(makers, wantMakers, slices.Equal) {
		t.Errorf("written into: %v, %v", makers, a)
	}
	if &makers[0][0] != &one[0] || &makers[1][0] != &two[0] {
		t.Error("the makers are other lists")
	}
}

// TestNothingIsKept has P2: what is changed behind a call is not to be seen in its answer, nor in the next one.
func TestNothingIsKept(t *testing.T) {
	a := []int{1, 2, 3, 0}
	makers := [][]int{a}
	got, _ := group.Element(4, makers, 1)
	lists, _ := group.Orbits(4, makers)
	copy(a, []int{1, 0, 2, 3})
	wantList(t, "Element", got, api.OK, []int{1, 2, 3, 0})
	if len(lists) != 1 || !slices.Equal(lists[0], stay(4)) {
		t.Errorf("Orbits: got %v", lists)
	}
	number, e := group.Order(4, makers)
	wantNumber(t, "Order of the next", number, e, 2)
}

// TestWhatComesOutIsFresh has P2: no two lists of the answers share memory, behind their length neither.
func TestWhatComesOutIsFresh(t *testing.T) {
	makers := [][]int{{5, 1, 3, 2, 4, 0, 6}, {0, 4, 2, 3, 1, 5, 6}}
	tell := func() [][]int {
		lists, _ := group.Orbits(7, makers)
		a, _ := group.Element(7, makers, 0)
		b, _ := group.Element(7, makers, 3)
		fixed, _ := group.Fixed(7, makers)
		all, _ := group.All(7, makers)
		return append(append(lists, a, b, fixed), all...)
	}
	lists, want := tell(), tell()
	if len(lists) != 4+3+4 {
		t.Fatalf("got %v", lists)
	}
	for i, list := range lists {
		if !slices.Equal(list, want[i]) {
			t.Errorf("got %v, want %v", list, want[i])
		}
		for j := range list[:cap(list)] {
			list[:cap(list)][j] = -1
		}
	}
	if again := tell(); !slices.EqualFunc(again, want, slices.Equal) {
		t.Errorf("got %v, want %v", again, want)
	}
	if !slices.EqualFunc(makers, [][]int{{5, 1, 3, 2, 4, 0, 6}, {0, 4, 2, 3, 1, 5, 6}}, slices.Equal) {
		t.Errorf("the makers are written into: %v", makers)
	}
}

// TestOneListForAll has P2: one list in all places, told as of lists apart.
func TestOneListForAll(t *testing.T) {
	a := turn(6)
	got := answers(maker{6, [][]int{a, a, a, a}}, a, 1)
	if want := answers(maker{6, [][]int{turn(6)}}, turn(6), 1); got != want || !slices.Equal(a, turn(6)) {
		t.Errorf("got %s, want %s", got, want)
	}
}

// TestNoNumberPanics has P1: each face at numbers from end to end, in each place.
func TestNoNumberPanics(t *testing.T) {
	ends := []int{math.MinInt, -1, 0, 1, 2, 7, 8, 12, math.MaxInt}
	for _, n := range append(ends, 3, 4, 5, 6) {
		for _, x := range ends {
			for size := range 15 {
				b := stay(size)
				if size > 0 {
					b[size/2] = x
				}
				m := maker{n, [][]int{b, slices.Repeat([]int{x}, size)}}
				if e := group.Check(n, m.makers); e != api.OK {
					wantError(t, m, e)
				}
				answers(m, b, x)
				answers(maker{n, nil}, b, x)
			}
		}
	}
}
