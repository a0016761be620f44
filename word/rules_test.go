package word_test

import (
	"fmt"
	"math"
	"slices"
	"testing"

	"parterre/api"
	"parterre/word"
)

// TestExamplesOfTheChapter has the table behind W5.
func TestExamplesOfTheChapter(t *testing.T) {
	list, e := word.Gray(2)
	wantList(t, "Gray of 2", list, e, []int{0, 1, 3, 2}, api.OK)
	number, e := word.Place(3, 4)
	wantNumber(t, "Place of 3, 4", number, e, 7, api.OK)
	list, e = word.Factors([]int{0, 1, 0, 0, 1})
	wantList(t, "Factors of 0 1 0 0 1", list, e, []int{2, 3}, api.OK)
	number, e = word.Primes(2, 6)
	wantNumber(t, "Primes of 2, 6", number, e, 9, api.OK)
	list, e = word.Bruijn(2, 3)
	wantList(t, "Bruijn of 2, 3", list, e, []int{0, 0, 0, 1, 0, 1, 1, 1}, api.OK)
	list, e = word.Next(2, []int{0, 0, 1})
	wantList(t, "Next of 2, 0 0 1", list, e, []int{0, 1}, api.OK)
	list, e = word.Next(2, []int{1})
	wantList(t, "Next of 2, 1", list, e, nil, api.ErrNone)
}

// padded has room, and other numbers, behind its length.
func padded(list []int) []int {
	return append(slices.Clone(list), 0, 1, -7, 99)[:len(list)]
}

// given are words, some of which are none.
func given() [][]int {
	out := every(3, 4)
	out = append(out, long()...)
	for _, lists := range wrongWords() {
		out = append(out, lists...)
	}
	return append(out, nil)
}

// TestNothingIsWritten has P2 and P4 of the document: what is handed in, and what lies behind its length, stays and is not read; and the same is told again.
func TestNothingIsWritten(t *testing.T) {
	for _, list := range given() {
		for _, k := range []int{0, 2, 3, 10} {
			want := told(k, list)
			other := padded(list)
			was := slices.Clone(other[:cap(other)])
			for range 2 {
				if told(k, other) != want {
					t.Errorf("%s: is told otherwise", name("", list))
				}
			}
			if !slices.Equal(other[:cap(other)], was) {
				t.Errorf("%s: is written into", name("", list))
			}
		}
	}
}

// TestNothingIsWrittenMeanwhile has P2 of the document: what is handed in is read by many at once, and none may write into it even for a while (the race detector tells).
func TestNothingIsWrittenMeanwhile(t *testing.T) {
	for _, list := range [][]int{{0, 0, 1, 2}, {2, 1, 0}, {0, 1, 0, 1}, {2}, slices.Repeat([]int{0, 1, 2, 0}, 1024)} {
		want := told(3, list)
		answers := make(chan string)
		for range 8 {
			go func() { answers <- told(3, list) }()
		}
		for range 8 {
			if <-answers != want {
				t.Errorf("%s: is told otherwise", name("", list))
			}
		}
	}
}

// TestNothingIsKept has P2 of the document: what is told hangs on what is there now.
func TestNothingIsKept(t *testing.T) {
	next := numbers(7)
	list := make([]int, 6)
	for range 200 {
		now := strewn(3, 6, next)
		want := told(3, now)
		copy(list, now)
		if got := told(3, list); got != want {
			t.Errorf("got %s, want %s", got, want)
		}
	}
}

// spoil writes into all of a list's memory.
func spoil(list []int) {
	list = list[:cap(list)]
	for i := range list {
		list[i] = -5
	}
}

// TestWhatComesOutIsFresh has P2 of the document: whoever writes into what is answered, or behind its length, changes nothing that was handed in, and nothing that is told next.
func TestWhatComesOutIsFresh(t *testing.T) {
	for _, list := range given() {
		want, was := told(3, list), slices.Clone(list)
		lengths, _ := word.Factors(list)
		spoil(lengths)
		next, _ := word.Next(3, list)
		spoil(next)
		if told(3, list) != want || !slices.Equal(list, was) {
			t.Errorf("%s: is told otherwise", name("", list))
		}
	}
	for n := range 13 {
		for _, ask := range []func() ([]int, api.Errno){
			func() ([]int, api.Errno) { return word.Gray(n) },
			func() ([]int, api.Errno) { return word.Bruijn(2, n) },
			func() ([]int, api.Errno) { return word.Bruijn(n, 1) },
		} {
			list, e := ask()
			want := slices.Clone(list)
			spoil(list)
			again, e1 := ask()
			wantList(t, name("the same again", n), again, e1, want, e)
		}
	}
}

// TestEmptyAndNil has P4 of the document: an empty list and nil are the same.
func TestEmptyAndNil(t *testing.T) {
	for k := -1; k <= 11; k++ {
		a, b := told(k, nil), told(k, []int{})
		if a != b {
			t.Errorf("got %s and %s", a, b)
		}
	}
	truth, e := word.Lyndon([]int{})
	wantTruth(t, "Lyndon of no number", truth, e, false, api.OK)
	list, e := word.Factors([]int{})
	wantList(t, "Factors of no number", list, e, nil, api.OK)
}

// TestNoNumberPanics has P1 of the document: each face at numbers from end to end, in each place.
func TestNoNumberPanics(t *testing.T) {
	ends := []int{math.MinInt, math.MinInt + 1, math.MinInt / 2, -1 << 32, -12, -2, -1, 0, 1, 2, 3, 9, 10, 11, 12, 13, 59, 60, 61, 63, 64, 1 << 31, 1 << 32, 3 << 32, 1e18, 1e18 + 1, math.MaxInt / 2, math.MaxInt - 1, math.MaxInt}
	for _, x := range ends {
		word.Gray(x)
		for _, y := range ends {
			word.Place(x, y)
			word.Primes(x, y)
			word.Bruijn(x, y)
			for many := range 5 {
				if got := fmt.Sprint(many, told(x, slices.Repeat([]int{y}, many))); got == "" {
					t.Errorf("nothing is told")
				}
			}
			for _, z := range ends {
				told(x, []int{y, z})
				told(3, []int{x, y, z})
			}
		}
	}
}
