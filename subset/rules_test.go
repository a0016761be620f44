package subset_test

import (
	"fmt"
	"math"
	"slices"
	"testing"

	"parterre/api"
	"parterre/subset"
)

// TestExamplesOfTheChapter has the table behind K5.
func TestExamplesOfTheChapter(t *testing.T) {
	number, e := subset.Rank([]int{0, 2, 3})
	wantNumber(t, "Rank of 0 2 3", number, e, 2, api.OK)
	list, e := subset.Unrank(3, 2)
	wantList(t, "Unrank of 3, 2", list, e, []int{0, 2, 3}, api.OK)
	list, e = subset.Cascade(11, 3)
	wantList(t, "Cascade of 11, 3", list, e, []int{5, 2}, api.OK)
	number, e = subset.Least(11, 3)
	wantNumber(t, "Least of 11, 3", number, e, 12, api.OK)
	lists, e := subset.Chains(2)
	wantLists(t, "Chains of 2", lists, e, [][]int{{0, 1, 3}, {2}}, api.OK)
}

// padded has room, and other numbers, behind its length.
func padded(list []int) []int {
	return append(slices.Clone(list), 0, 1, -7, 99)[:len(list)]
}

// given are lists, some of which are no families, or have no rank.
func given() [][]int {
	out := every(-1, 4, 3)
	for n := range 13 {
		out = append(out, families(n)[:12]...)
	}
	return append(out, nil, []int{}, make([]int, 31), make([]int, 4097), strewn(61, 30, numbers(9)), strewn(61, 31, numbers(9)))
}

// TestNothingIsWritten has P2 and P4 of the document: what is handed in, and what lies behind its length, stays and is not read; and the same is told again.
func TestNothingIsWritten(t *testing.T) {
	for _, list := range given() {
		for _, n := range []int{-1, 0, 3, 12} {
			want := told(n, list)
			other := padded(list)
			was := slices.Clone(other[:cap(other)])
			for range 2 {
				if told(n, other) != want {
					t.Errorf("%s: is told otherwise", name("", list))
				}
			}
			if !slices.Equal(other[:cap(other)], was) {
				t.Errorf("%s: is written into", name("", list))
			}
		}
	}
}

// TestNothingIsWrittenMeanwhile has P2 of the document: what is handed in is read by many at once, and none may write into it even for a while (the race detector tells).
func TestNothingIsWrittenMeanwhile(t *testing.T) {
	for _, list := range append(families(7)[:9], []int{2, 1}, []int{3, 3}, []int{-1}) {
		want := told(7, list)
		answers := make(chan string)
		for range 8 {
			go func() { answers <- told(7, list) }()
		}
		for range 8 {
			if <-answers != want {
				t.Errorf("%s: is told otherwise", name("", list))
			}
		}
	}
}

// TestNothingIsKept has P2 of the document: what is told hangs on what is there now.
func TestNothingIsKept(t *testing.T) {
	next := numbers(7)
	list := make([]int, 6)
	for range 200 {
		now := strewn(32, 6, next)
		want := told(5, now)
		copy(list, now)
		if got := told(5, list); got != want {
			t.Errorf("got %s, want %s", got, want)
		}
	}
}

// spoil writes into all of a list's memory.
func spoil(list []int) {
	list = list[:cap(list)]
	for i := range list {
		list[i] = -5
	}
}

// TestWhatComesOutIsFresh has P2 of the document: whoever writes into what is answered, or behind its length, changes nothing that was handed in, and nothing that is told next.
func TestWhatComesOutIsFresh(t *testing.T) {
	for _, list := range given() {
		want, was := told(12, list), slices.Clone(list)
		shadow, _ := subset.Shadow(12, list)
		spoil(shadow)
		if told(12, list) != want || !slices.Equal(list, was) {
			t.Errorf("%s: is told otherwise", name("", list))
		}
	}
	for k := range 31 {
		for _, ask := range []func() ([]int, api.Errno){
			func() ([]int, api.Errno) { return subset.Unrank(k, choose(50, k)) },
			func() ([]int, api.Errno) { return subset.Cascade(12345678, k) },
		} {
			list, e := ask()
			want := slices.Clone(list)
			spoil(list)
			again, e1 := ask()
			wantList(t, name("the same again", k), again, e1, want, e)
		}
	}
}

// TestNoTwoChainsShare has P2 of the document: whoever writes into one of the Chains, or behind its length, changes no other one, and none that is told next.
func TestNoTwoChainsShare(t *testing.T) {
	for n := range 11 {
		lists, _ := subset.Chains(n)
		want := chainsOf(n)
		for at := range lists {
			spoil(lists[at])
			wantLists(t, name("Chains", n), lists[at+1:], api.OK, want[at+1:], api.OK)
		}
		lists = lists[:cap(lists)]
		clear(lists)
		again, e := subset.Chains(n)
		wantLists(t, name("Chains", n), again, e, want, api.OK)
	}
}

// TestEmptyAndNil has P4 of the document: an empty list and nil are the same.
func TestEmptyAndNil(t *testing.T) {
	for n := -1; n <= 13; n++ {
		a, b := told(n, nil), told(n, []int{})
		if a != b {
			t.Errorf("got %s and %s", a, b)
		}
	}
	rank, e := subset.Rank(nil)
	wantNumber(t, "Rank of no number", rank, e, 0, api.OK)
	wantFamily(t, 0, []int{})
	wantFamily(t, 12, nil)
}

// TestNoNumberPanics has P1 of the document: each face at numbers from end to end, in each place.
func TestNoNumberPanics(t *testing.T) {
	ends := []int{math.MinInt, math.MinInt + 1, math.MinInt / 2, -1 << 32, -12, -2, -1, 0, 1, 2, 3, 9, 10, 11, 12, 13, 29, 30, 31, 59, 60, 61, 63, 64, 4095, 4096, 1 << 31, 1 << 32, 3 << 32, 1e9, 1e9 + 1, math.MaxInt / 2, math.MaxInt - 1, math.MaxInt}
	for _, x := range ends {
		subset.Chains(x)
		for _, y := range ends {
			subset.Unrank(x, y)
			subset.Cascade(x, y)
			subset.Least(x, y)
			for many := range 5 {
				if got := fmt.Sprint(many, told(x, slices.Repeat([]int{y}, many))); got == "" {
					t.Errorf("nothing is told")
				}
			}
			for _, z := range ends {
				told(x, []int{y, z})
				told(4, []int{x, y, z})
			}
		}
	}
}
