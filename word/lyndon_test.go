package word_test

import (
	"math"
	"slices"
	"testing"

	"parterre/api"
	"parterre/word"
)

// small has all words of so few numbers that each can be asked.
func small() [][]int {
	var out [][]int
	for k, most := range map[int]int{2: 12, 3: 7, 4: 5} {
		for n := range most + 1 {
			out = append(out, every(k, n)...)
		}
	}
	return out
}

// long has words of many numbers: all alike, rising, falling, going over and over, strewn, and such that part late.
func long() [][]int {
	var out [][]int
	for _, n := range []int{13, 64, 255, 4095, 4096} {
		next := numbers(n)
		ones := slices.Repeat([]int{1}, n)
		last, first := slices.Clone(ones), slices.Clone(ones)
		last[n-1], first[0] = 2, 0
		low := slices.Clone(ones)
		low[n-1] = 0
		out = append(out, make([]int, n), ones, slices.Repeat([]int{9}, n), last, first, low)
		out = append(out, strewn(2, n, next), strewn(3, n, next), strewn(10, n, next))
		for _, part := range [][]int{{0, 1}, {1, 0}, {0, 0, 1}, {0, 1, 0, 1, 1}, {0, 1, 0, 2, 0, 1, 0, 3}} {
			word := slices.Repeat(part, n/len(part)+1)[:n]
			up, down := slices.Clone(word), slices.Clone(word)
			up[n-1], down[n-1] = 9, 0
			out = append(out, word, up, down)
		}
		sorted := strewn(10, n, next)
		slices.Sort(sorted)
		turned := slices.Clone(sorted)
		slices.Reverse(turned)
		out = append(out, sorted, turned)
	}
	return out
}

// wrongWords has lists that are no words, by what is wrong with them.
func wrongWords() map[api.Errno][][]int {
	over := make([]int, 4097)
	worse := slices.Clone(over)
	worse[0], worse[4096] = -1, 10
	late, early := make([]int, 4096), make([]int, 4096)
	late[4095], early[0] = 10, -1
	return map[api.Errno][][]int{
		api.ErrFull:  {over, worse, slices.Repeat([]int{10}, 4097), slices.Repeat([]int{0, 1}, 4096), make([]int, 1<<17)},
		api.ErrRange: {{10}, {-1}, {0, 10}, {10, 0}, {0, -1, 1}, {11}, {math.MinInt}, {math.MaxInt}, {1 << 32}, {0, 1<<32 + 1}, {-1 << 32}, late, early},
	}
}

// TestLyndon has W2: words that are held against each of their ends.
func TestLyndon(t *testing.T) {
	for _, list := range slices.Concat(small(), long()) {
		got, e := word.Lyndon(list)
		wantTruth(t, name("Lyndon", list), got, e, isLyndon(list), api.OK)
	}
}

// TestLyndonOfFew has W2: words that one sees to be one, or none.
func TestLyndonOfFew(t *testing.T) {
	for x := range 10 {
		got, e := word.Lyndon([]int{x})
		wantTruth(t, name("Lyndon", x), got, e, true, api.OK)
		for y := range 10 {
			got, e := word.Lyndon([]int{x, y})
			wantTruth(t, name("Lyndon", x, y), got, e, x < y, api.OK)
		}
	}
	got, e := word.Lyndon(nil)
	wantTruth(t, "Lyndon of no number", got, e, false, api.OK)
}

// TestFactors has W2 and W5: of all ways to part a word there is one alone, and that is told.
func TestFactors(t *testing.T) {
	for _, list := range small() {
		ways := waysOf(list, nil)
		if len(ways) != 1 {
			t.Fatalf("%v: there are %d ways", list, len(ways))
		}
		got, e := word.Factors(list)
		wantList(t, name("Factors", list), got, e, ways[0], api.OK)
	}
}

// TestFactorsOfStrewn has W2: the same of words of some more numbers, up to 9.
func TestFactorsOfStrewn(t *testing.T) {
	next := numbers(20)
	for n := range 40 {
		for k := 1; k <= 10; k++ {
			list := strewn(k, n, next)
			ways := waysOf(list, nil)
			if k == 1 {
				ways = [][]int{slices.Repeat([]int{1}, n)}
			}
			got, e := word.Factors(list)
			if len(ways) != 1 {
				t.Fatalf("%v: there are %d ways", list, len(ways))
			}
			wantList(t, name("Factors", list), got, e, ways[0], api.OK)
		}
	}
}

// TestFactorsOfLong has W2: what is told is such a way; W5 says that there is no other one.
func TestFactorsOfLong(t *testing.T) {
	for _, list := range long() {
		lengths, e := word.Factors(list)
		parts := cutAt(list, lengths)
		if e != api.OK || len(parts) == 0 {
			t.Errorf("%s: got %s, error %d", name("Factors", list), name("", lengths), e)
		}
		for i, part := range parts {
			if !isLyndon(part) {
				t.Errorf("%s: part %d is no Lyndon word", name("Factors", list), i)
			}
			if i > 0 && isAhead(parts[i-1], part) {
				t.Errorf("%s: part %d is ahead of the next", name("Factors", list), i-1)
			}
		}
	}
}

// TestFactorsOfSome has W2: words whose Factors one sees.
func TestFactorsOfSome(t *testing.T) {
	for _, some := range []struct{ list, want []int }{
		{nil, nil},
		{[]int{5}, []int{1}},
		{[]int{0, 0, 0}, []int{1, 1, 1}},
		{[]int{0, 1, 0, 1}, []int{2, 2}},
		{[]int{0, 1, 0, 1, 1}, []int{5}},
		{[]int{0, 1, 0, 1, 0}, []int{2, 2, 1}},
		{[]int{9, 8, 7}, []int{1, 1, 1}},
		{[]int{7, 8, 9}, []int{3}},
		{[]int{1, 0, 2, 0, 1}, []int{1, 2, 2}},
		{slices.Repeat([]int{0, 0, 9}, 1365), slices.Repeat([]int{3}, 1365)},
	} {
		got, e := word.Factors(some.list)
		wantList(t, name("Factors", some.list), got, e, some.want, api.OK)
	}
}

// TestWrongWords has W2: its errors, the first of them.
func TestWrongWords(t *testing.T) {
	for want, lists := range wrongWords() {
		for _, list := range lists {
			truth, e := word.Lyndon(list)
			wantTruth(t, name("Lyndon", list), truth, e, false, want)
			lengths, e := word.Factors(list)
			wantList(t, name("Factors", list), lengths, e, nil, want)
			if wrongWord(list) != want {
				t.Errorf("%s: the words say error %d", name("", list), wrongWord(list))
			}
		}
	}
}

// TestEachNumber has W2: each number about the bounds, at each place.
func TestEachNumber(t *testing.T) {
	for n := 1; n <= 5; n++ {
		for place := range n {
			for x := -12; x <= 24; x++ {
				list := make([]int, n)
				list[place] = x
				want := wrongWord(list)
				truth, e := word.Lyndon(list)
				wantTruth(t, name("Lyndon", list), truth, e, want == api.OK && isLyndon(list), want)
				_, e = word.Factors(list)
				if e != want {
					t.Errorf("%s: got error %d, want %d", name("Factors", list), e, want)
				}
			}
		}
	}
}
