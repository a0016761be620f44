package strong_test

import (
	"fmt"
	"math"
	"slices"
	"testing"

	"parterre/api"
	"parterre/field"
	"parterre/strong"
)

// TestExamplesOfTheChapter has the table behind G5.
func TestExamplesOfTheChapter(t *testing.T) {
	f, e := field.Least(5, 1)
	wantError(t, "Least of 5, 1", e, api.OK)
	g, e := strong.Paley(f)
	wantError(t, "Paley of it", e, api.OK)
	numbers, e := strong.Numbers(g)
	want(t, "Numbers of Paley", numbers, e, api.Strong{Places: 5, Degree: 2, Near: 0, Far: 1}, api.OK)
	g, e = strong.Triangle(5)
	wantError(t, "Triangle of 5", e, api.OK)
	numbers, e = strong.Numbers(g)
	want(t, "Numbers of Triangle", numbers, e, api.Strong{Places: 10, Degree: 6, Near: 3, Far: 4}, api.OK)
	for s, fits := range map[api.Strong]bool{
		{Places: 10, Degree: 3, Near: 0, Far: 1}:  true,
		{Places: 28, Degree: 12, Near: 6, Far: 4}: true,
		{Places: 22, Degree: 7, Near: 0, Far: 3}:  false,
	} {
		got, e := strong.Fits(s)
		want(t, name("Fits", s), got, e, fits, api.OK)
	}
}

// answers tells all that is asked of a square, be it a graph or a Latin one, as text.
func answers(s api.Square) string {
	numbers, e := strong.Numbers(s)
	other, e1 := strong.Other(s)
	friend, e2 := strong.Friend(s)
	made, e3 := strong.Latin(s)
	return fmt.Sprint(strong.Check(s), numbers, e, other, e1, friend, e2, made, e3)
}

// asked are good and wrong ones, for graphs and for Latin squares.
func asked() []api.Square {
	return []api.Square{
		{}, empty(1), cells(1, 1), cells(1, 2), cells(1), complete(2), cells(2, 0, 1, 0, 0), cells(2, 1, 0, 0, 1), cells(25), cells(9),
		complete(3), cells(3, 0, 1, 2, 1, 2, 0, 2, 0, 1), cells(4, 0, 1, 2, 3, 1, 0, 3, 2, 2, 3, 0, 1, 3, 2, 1, 0), cells(4, 3, 2, 1, 0, 3, 2, 1, 0, 3, 2, 1, 0, 3, 2, 1, 0),
		round(5, 1), round(6, 1), windmill(2), windmill(11), petersen(), clebsch(), apart(12, 2), instead(apart(12, 2), 575, 1), instead(apart(12, 2), 575, 2),
	}
}

// padded has room, and other numbers, behind its cells.
func padded(s api.Square) api.Square {
	return api.Square{Side: s.Side, Cells: append(slices.Clone(s.Cells), -7, 99, 0, 1)[:len(s.Cells)]}
}

// behind tells all that lies in the memory of a square.
func behind(s api.Square) string {
	return fmt.Sprint(s.Side, len(s.Cells), s.Cells[:cap(s.Cells)])
}

// TestNothingIsWritten has P2 and P4 of the document: the cells, and what lies behind their length, stay and are not read; and the same is told again.
func TestNothingIsWritten(t *testing.T) {
	for _, s := range asked() {
		want := answers(s)
		other := padded(s)
		was := behind(other)
		for range 2 {
			if told := answers(other); told != want {
				t.Errorf("got %s, want %s", told, want)
			}
		}
		if behind(other) != was {
			t.Errorf("written into: %v", s)
		}
	}
}

// TestFieldIsNotWritten has P2 and P4 of the document, of what Paley is given.
func TestFieldIsNotWritten(t *testing.T) {
	for _, f := range append(allFields(), brokenFields()...) {
		wanted, e := strong.Paley(f)
		f.Low = append(slices.Clone(f.Low), 3, -1, 1, 0)[:len(f.Low)]
		was := fmt.Sprint(f, f.Low[:cap(f.Low)])
		for range 2 {
			got, e1 := strong.Paley(f)
			wantSquare(t, name("Paley", f), got, e1, wanted, e)
		}
		if now := fmt.Sprint(f, f.Low[:cap(f.Low)]); now != was {
			t.Errorf("written into: %s, which was %s", now, was)
		}
	}
}

// TestNothingIsWrittenMeanwhile has P2 of the document: what is handed in is read by many at once, and none may write into it even for a while (the race detector tells).
func TestNothingIsWrittenMeanwhile(t *testing.T) {
	nine := api.Field{Prime: 3, Degree: 2, Low: []int{1, 0}}
	ask := func(s api.Square) string {
		made, e := strong.Paley(nine)
		return answers(s) + fmt.Sprint(made, e)
	}
	for _, s := range asked() {
		want := ask(s)
		told := make(chan string)
		for range 8 {
			go func() { told <- ask(s) }()
		}
		for range 8 {
			if got := <-told; got != want {
				t.Errorf("got %s, want %s", got, want)
			}
		}
	}
}

// TestNothingIsKept has P2 of the document: what is told hangs on what is there now.
func TestNothingIsKept(t *testing.T) {
	g := cells(5, make([]int, 25)...)
	for start := range 40 {
		now := round(5, 1+start%2)
		if start%5 == 4 {
			now = renamed(windmill(2), strewnOrder(5, numbers(start)))
		}
		if start%7 == 6 {
			now = instead(now, start%25, 1-now.Cells[start%25])
		}
		want := answers(now)
		copy(g.Cells, now.Cells)
		if got := answers(g); got != want {
			t.Errorf("got %s, want %s", got, want)
		}
	}
	f := api.Field{Prime: 3, Degree: 2, Low: []int{0, 0}}
	for _, low := range [][]int{{1, 0}, {2, 1}, {2, 2}, {1, 1}, {1, 0}} {
		wanted, e := strong.Paley(api.Field{Prime: 3, Degree: 2, Low: low})
		copy(f.Low, low)
		got, e1 := strong.Paley(f)
		wantSquare(t, name("Paley", f), got, e1, wanted, e)
	}
}

// spoil writes into all of a list's memory.
func spoil(list []int) {
	list = list[:cap(list)]
	for i := range list {
		list[i] = -5
	}
}

// makers are the faces that answer a graph.
func makers(s api.Square, f api.Field) map[string]func() (api.Square, api.Errno) {
	return map[string]func() (api.Square, api.Errno){
		"Other":    func() (api.Square, api.Errno) { return strong.Other(s) },
		"Latin":    func() (api.Square, api.Errno) { return strong.Latin(s) },
		"Paley":    func() (api.Square, api.Errno) { return strong.Paley(f) },
		"Triangle": func() (api.Square, api.Errno) { return strong.Triangle(2 + s.Side%6) },
	}
}

// TestWhatComesOutIsFresh has P2 of the document: whoever writes into what is answered, or behind its length, changes nothing that was handed in, and nothing that is told next.
func TestWhatComesOutIsFresh(t *testing.T) {
	f := api.Field{Prime: 13, Degree: 1, Low: []int{4}}
	for _, s := range append(asked(), cells(1, 0), cells(5), cells(0)) {
		was, wasField := behind(s), fmt.Sprint(f)
		for call, ask := range makers(s, f) {
			wanted, e := ask()
			wanted = clone(wanted)
			got, _ := ask()
			spoil(got.Cells)
			again, e1 := ask()
			wantSquare(t, name(call+" again", s), again, e1, wanted, e)
		}
		if behind(s) != was || fmt.Sprint(f) != wasField {
			t.Errorf("what was handed in is written into: %v, %v", s, f)
		}
	}
}

// TestEmptyAndNil has P4 of the document: an empty list and nil are the same.
func TestEmptyAndNil(t *testing.T) {
	for side := -1; side <= 26; side++ {
		one, other := api.Square{Side: side}, api.Square{Side: side, Cells: []int{}}
		if a, b := answers(one), answers(other); a != b {
			t.Errorf("got %s and %s", a, b)
		}
	}
	for _, f := range []api.Field{{}, {Prime: 5}, {Prime: 5, Degree: 1}, {Prime: 3, Degree: 2}, {Prime: 4, Degree: 1}} {
		wanted, e := strong.Paley(f)
		f.Low = []int{}
		got, e1 := strong.Paley(f)
		wantSquare(t, name("Paley", f), got, e1, wanted, e)
	}
}

// TestNoNumberPanics has P1 of the document: each face at numbers from end to end, in each place.
func TestNoNumberPanics(t *testing.T) {
	ends := []int{math.MinInt, math.MinInt + 1, math.MinInt / 2, -25, -2, -1, 0, 1, 2, 3, 4, 5, 7, 8, 9, 24, 25, 63, 64, 999, 1000, 1001, 1 << 31, 1 << 32, 1 << 62, math.MaxInt / 2, math.MaxInt - 1, math.MaxInt}
	good := []api.Square{empty(1), complete(2), petersen(), apart(2, 12), cells(3, 0, 1, 2, 1, 2, 0, 2, 0, 1)}
	for _, x := range ends {
		strong.Triangle(x)
		for _, y := range ends {
			for _, long := range []int{0, 1, 2, 4, 16, 17} {
				list := slices.Repeat([]int{y}, long)
				answers(cells(x, list...))
				strong.Paley(api.Field{Prime: x, Degree: long, Low: list})
				strong.Paley(api.Field{Prime: x, Degree: y, Low: list})
			}
			for _, g := range good {
				for _, place := range []int{0, len(g.Cells) / 2, len(g.Cells) - 1} {
					answers(instead(instead(g, 0, y), place, x))
				}
			}
			for _, l := range ends {
				for _, m := range ends {
					s := api.Strong{Places: x, Degree: y, Near: l, Far: m}
					if got, e := strong.Fits(s); got && e != api.OK {
						t.Errorf("%s: got true beside error %d", name("Fits", s), e)
					}
				}
			}
		}
	}
}
