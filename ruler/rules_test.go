package ruler_test

import (
	"fmt"
	"math"
	"slices"
	"testing"

	"parterre/api"
	"parterre/ruler"
)

// TestExampleOfTheChapter has the table behind R4.
func TestExampleOfTheChapter(t *testing.T) {
	is, e := ruler.Check([]int{0, 1, 4, 6})
	wantBool(t, "Check of 0 1 4 6", is, e, true, api.OK)
	is, e = ruler.Check([]int{0, 1, 2})
	wantBool(t, "Check of 0 1 2", is, e, false, api.OK)
	l, e := ruler.Best(4)
	wantList(t, "Best of 4", l, e, []int{0, 1, 4, 6}, api.OK)
	l, e = ruler.Best(5)
	wantList(t, "Best of 5", l, e, []int{0, 1, 4, 9, 11}, api.OK)
	l, e = ruler.Welch(5, 2)
	wantList(t, "Welch of 5, 2", l, e, []int{0, 1, 3, 2}, api.OK)
	n, e := ruler.Costases(4)
	wantNumber(t, "Costases of 4", n, e, 12, api.OK)
}

// answers tells all that is asked of a list, as text.
func answers(list []int, v int) string {
	ruled, e := ruler.Check(list)
	vectors, e1 := ruler.Costas(list)
	sums, e2 := ruler.Sidon(list, v)
	return fmt.Sprint(ruled, e, vectors, e1, sums, e2)
}

// several are good and wrong ones, and some that are good for one face alone.
func several() [][]int {
	return [][]int{nil, {0}, {0, 1}, {0, 1, 3}, {0, 1, 4, 6}, {0, 1, 2}, {0, 1, 3, 2}, {0, 3, 1, 4, 2}, {1, 2}, {0, 0}, {-1, 5}, {0, 60}, welch(13, 2), powersLessOne(30), upTo(60), upTo(61)}
}

// TestNothingIsWritten has P2 and P4: a list, and what lies behind its length, stays and is not read; and the same is told again.
func TestNothingIsWritten(t *testing.T) {
	for _, list := range several() {
		memory := append(slices.Clone(list), 7, -7, 3, 0)
		was, want := slices.Clone(memory), answers(list, 60)
		for range 2 {
			if told := answers(memory[:len(list)], 60); told != want {
				t.Errorf("%v: got %s, want %s", list, told, want)
			}
		}
		if !slices.Equal(memory, was) {
			t.Errorf("written into: %v, was %v", memory, was)
		}
	}
}

// TestNothingIsWrittenMeanwhile has P2: a list is read by many at once, and none may write into it even for a while (the race detector tells).
func TestNothingIsWrittenMeanwhile(t *testing.T) {
	all := func() string {
		out := ""
		for _, list := range [][]int{{0, 1, 4, 6}, {0, 1, 3, 2}} {
			out += answers(list, 13)
		}
		best, _ := ruler.Best(5)
		made, _ := ruler.Welch(11, 7)
		some, _ := ruler.Costases(5)
		return fmt.Sprint(out, best, made, some)
	}
	shared, want := welch(13, 7), all()
	wantShared := answers(shared, 60)
	told := make(chan string)
	for range 8 {
		go func() { told <- all() + answers(shared, 60) }()
	}
	for range 8 {
		if got := <-told; got != want+wantShared {
			t.Errorf("got %s, want %s", got, want+wantShared)
		}
	}
}

// TestNothingIsKept has P2: what is told hangs on what the list has now.
func TestNothingIsKept(t *testing.T) {
	list := []int{0, 1, 4, 6}
	for _, now := range [][]int{{0, 1, 4, 6}, {0, 1, 2, 3}, {0, 1, 3, 2}, {0, 0, 1, 2}, {0, 2, 5, 6}, {0, 1, 4, 99}, {0, 1, 4, 6}} {
		want := answers(slices.Clone(now), 13)
		copy(list, now)
		if got := answers(list, 13); got != want {
			t.Errorf("%v: got %s, want %s", now, got, want)
		}
	}
}

// spoil writes into all of a list's memory.
func spoil(list []int) {
	list = list[:cap(list)]
	for i := range list {
		list[i] = -1
	}
}

// TestWhatComesOutIsFresh has P2: whoever writes into an answer, or behind its length, changes nothing that is told next.
func TestWhatComesOutIsFresh(t *testing.T) {
	for n := 1; n <= 7; n++ {
		one, e := ruler.Best(n)
		kept := slices.Clone(one)
		spoil(one)
		other, _ := ruler.Best(n)
		wantList(t, name("Best", n), other, e, kept, api.OK)
	}
	for _, p := range []int{3, 5, 11, 13} {
		one, _ := ruler.Welch(p, 2)
		spoil(one)
		other, e := ruler.Welch(p, 2)
		wantList(t, name("Welch", p, ", ", 2), other, e, welch(p, 2), api.OK)
	}
}

// TestEmptyAndNil has P4: an empty list and nil are the same.
func TestEmptyAndNil(t *testing.T) {
	for v := -1; v <= 62; v++ {
		if one, other := answers(nil, v), answers([]int{}, v); one != other {
			t.Errorf("got %s and %s", one, other)
		}
	}
}

// TestNoNumberPanics has P1: each face at numbers from end to end, in each place.
func TestNoNumberPanics(t *testing.T) {
	ends := []int{math.MinInt, math.MinInt + 1, math.MinInt / 2, -61, -1, 0, 1, 2, 3, 7, 12, 13, 59, 60, 61, 999_999_999, 1_000_000_000, 1_000_000_001, 1 << 32, math.MaxInt / 2, math.MaxInt - 1, math.MaxInt}
	for _, x := range ends {
		for _, y := range ends {
			for _, z := range ends {
				answers([]int{x, y, z}, 60)
				answers([]int{0, x, y}, z)
			}
			answers([]int{x}, y)
			answers(slices.Repeat([]int{x}, 60), y)
			answers(slices.Repeat([]int{x}, 1000), y)
			ruler.Welch(x, y)
		}
		answers(nil, x)
		answers(upTo(60), x)
		ruler.Best(x)
		ruler.Costases(x)
	}
}
