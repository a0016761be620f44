package differ_test

import (
	"fmt"
	"math"
	"slices"
	"testing"

	"parterre/api"
	"parterre/differ"
	"parterre/field"
)

// TestExampleOfTheChapter has the table behind D4.
func TestExampleOfTheChapter(t *testing.T) {
	set := []int{1, 2, 4}
	n, e := differ.Level(7, set)
	wantNumber(t, "Level", n, e, 1, api.OK)
	m, e := differ.Multipliers(7, set)
	wantList(t, "Multipliers", m, e, []int{1, 2, 4}, api.OK)
	d, e := differ.Develop(7, set)
	wantList(t, "Develop's second block", d.Blocks[1], e, []int{2, 3, 5}, api.OK)
	p, e := differ.Paley(11)
	wantList(t, "Paley", p, e, []int{1, 3, 4, 5, 9}, api.OK)
	f, _ := field.Least(2, 3)
	v, s, e := differ.Singer(f)
	wantNumber(t, "Singer", v, e, 7, api.OK)
	wantList(t, "Singer", s, e, []int{1, 2, 4}, api.OK)
}

// answers tells all that is asked of a set, as text.
func answers(r ring) string {
	n, e := differ.Level(r.v, r.set)
	d, e1 := differ.Develop(r.v, r.set)
	m, e2 := differ.Multipliers(r.v, r.set)
	return fmt.Sprint(differ.Check(r.v, r.set), n, e, d, e1, m, e2)
}

// singerText tells what Singer does of a field.
func singerText(f api.Field) string {
	v, set, e := differ.Singer(f)
	return fmt.Sprint(v, set, e)
}

// several are good and wrong ones.
func several() []ring {
	out := []ring{{1, nil}, {1, []int{0}}, {7, []int{4, 2, 1}}, {7, []int{1, 2, 7}}, {41, []int{1, 5}}, whole(60)}
	for _, k := range knownOnes() {
		out = append(out, k.ring)
	}
	return out
}

// TestNothingIsWritten has P2 and P4: a list, and what lies behind its length, stays and is not read; and the same is told again.
func TestNothingIsWritten(t *testing.T) {
	for _, r := range several() {
		memory := append(slices.Clone(r.set), 3, -7, 99, 0)
		was, want := slices.Clone(memory), answers(r)
		for range 2 {
			if told := answers(ring{r.v, memory[:len(r.set)]}); told != want {
				t.Errorf("got %s, want %s", told, want)
			}
		}
		if !slices.Equal(memory, was) {
			t.Errorf("written into: %v, was %v", memory, was)
		}
	}
	memory := []int{1, 1, 0, -7, 99}
	f := api.Field{Prime: 2, Degree: 3, Low: memory[:3]}
	for range 2 {
		if told := singerText(f); told != "7 [1 2 4] 0" {
			t.Errorf("Singer: got %s", told)
		}
	}
	if !slices.Equal(memory, []int{1, 1, 0, -7, 99}) {
		t.Errorf("Singer wrote into %v", memory)
	}
}

// TestNothingIsWrittenMeanwhile has P2: a set is read by many at once, and none may write into it even for a while (the race detector tells).
func TestNothingIsWrittenMeanwhile(t *testing.T) {
	r := ring{21, []int{3, 6, 7, 12, 14}}
	f := api.Field{Prime: 3, Degree: 3, Low: []int{1, 2, 0}}
	want := answers(r) + singerText(f)
	told := make(chan string)
	for range 8 {
		go func() { told <- answers(r) + singerText(f) }()
	}
	for range 8 {
		if got := <-told; got != want {
			t.Errorf("got %s, want %s", got, want)
		}
	}
}

// TestNothingIsKept has P2: what is told hangs on what the set has now.
func TestNothingIsKept(t *testing.T) {
	set := []int{1, 2, 4}
	for _, now := range [][]int{{1, 2, 4}, {0, 1, 2}, {4, 2, 1}, {0, 1, 3}, {1, 2, 7}, {1, 2, 4}} {
		want := answers(ring{7, slices.Clone(now)})
		copy(set, now)
		if got := answers(ring{7, set}); got != want {
			t.Errorf("got %s, want %s", got, want)
		}
	}
	f := api.Field{Prime: 2, Degree: 3, Low: []int{1, 1, 0}}
	before := singerText(f)
	f.Low[1], f.Low[2] = 0, 1
	if after := singerText(f); before != "7 [1 2 4] 0" || after != "7 [3 5 6] 0" {
		t.Errorf("Singer: got %s, and of another Low %s", before, after)
	}
}

// spoil writes into all of a list's memory.
func spoil(list []int) {
	list = list[:cap(list)]
	for i := range list {
		list[i] = -1
	}
}

// TestWhatComesOutIsFresh has P2: whoever writes into one list of an answer, or behind its length, changes no other one of it, nothing that was handed in, and nothing that is told next.
func TestWhatComesOutIsFresh(t *testing.T) {
	for _, r := range several() {
		was := slices.Clone(r.set)
		want, _ := differ.Develop(r.v, r.set)
		for i := range want.Blocks {
			got, _ := differ.Develop(r.v, r.set)
			spoil(got.Blocks[i])
			for j, b := range want.Blocks {
				if j != i && !slices.Equal(got.Blocks[j], b) {
					t.Errorf("%s: list %d is in the memory of list %d", name("Develop", r), j, i)
				}
			}
		}
		m, e := differ.Multipliers(r.v, r.set)
		kept := slices.Clone(m)
		spoil(m)
		again, _ := differ.Multipliers(r.v, r.set)
		wantList(t, name("Multipliers", r), again, e, kept, e)
		if !slices.Equal(r.set, was) {
			t.Errorf("what was handed in is written into: %v, was %v", r.set, was)
		}
	}
	set, _ := differ.Paley(11)
	spoil(set)
	set, e := differ.Paley(11)
	wantList(t, "Paley of 11 again", set, e, []int{1, 3, 4, 5, 9}, api.OK)
	f := api.Field{Prime: 2, Degree: 3, Low: []int{1, 1, 0}}
	_, set, _ = differ.Singer(f)
	spoil(set)
	if told := singerText(f); told != "7 [1 2 4] 0" {
		t.Errorf("Singer again: got %s", told)
	}
}

// TestEmptyAndNil has P4: an empty list and nil are the same.
func TestEmptyAndNil(t *testing.T) {
	for v := -1; v <= 62; v++ {
		if one, other := answers(ring{v, nil}), answers(ring{v, []int{}}); one != other {
			t.Errorf("got %s and %s", one, other)
		}
	}
}

// TestNoNumberPanics has P1: each face at numbers from end to end, in each place.
func TestNoNumberPanics(t *testing.T) {
	ends := []int{math.MinInt, math.MinInt + 1, math.MinInt / 2, -61, -1, 0, 1, 2, 3, 7, 40, 41, 59, 60, 61, 64, 1 << 32, math.MaxInt / 2, math.MaxInt - 1, math.MaxInt}
	for _, v := range ends {
		for _, x := range ends {
			for _, y := range ends {
				answers(ring{v, []int{x, y}})
				answers(ring{v, []int{0, x, y}})
				answers(ring{v, []int{x, 1, y}})
			}
			for n := range 8 {
				singerText(api.Field{Prime: v, Degree: x, Low: make([]int, n)})
				singerText(api.Field{Prime: 2, Degree: 3, Low: []int{v, x, n}})
			}
		}
		answers(ring{v, nil})
		answers(whole(60))
		answers(ring{v, whole(60).set})
		answers(ring{v, slices.Repeat([]int{0}, 1000)})
		differ.Paley(v)
	}
}
