package word_test

import (
	"math"
	"math/bits"
	"testing"

	"parterre/api"
	"parterre/word"
)

// TestGray has W1: each number that is told, by the words.
func TestGray(t *testing.T) {
	for n := 0; n <= 12; n++ {
		var want []int
		for i := range power(2, n) {
			want = append(want, grayOf(i))
		}
		got, e := word.Gray(n)
		wantList(t, name("Gray", n), got, e, want, api.OK)
	}
}

// TestGrayOfFew has W1: the least ones, as one writes them down.
func TestGrayOfFew(t *testing.T) {
	for n, want := range [][]int{{0}, {0, 1}, {0, 1, 3, 2}, {0, 1, 3, 2, 6, 7, 5, 4}} {
		got, e := word.Gray(n)
		wantList(t, name("Gray", n), got, e, want, api.OK)
	}
}

// TestPlace has W1: where each number stands that does.
func TestPlace(t *testing.T) {
	for n := 0; n <= 12; n++ {
		for i := range power(2, n) {
			got, e := word.Place(n, grayOf(i))
			wantNumber(t, name("Place", n, grayOf(i)), got, e, i, api.OK)
		}
	}
}

// TestGrayOfWrong has W1: n is none that may be.
func TestGrayOfWrong(t *testing.T) {
	for _, n := range []int{math.MinInt, -1 << 32, -64, -13, -2, -1, 13, 14, 62, 63, 64, 65, 1 << 32, 1<<32 + 2, math.MaxInt} {
		got, e := word.Gray(n)
		wantList(t, name("Gray", n), got, e, nil, api.ErrRange)
		for _, x := range []int{math.MinInt, -1, 0, 1, 4095, 4096, math.MaxInt} {
			got, e := word.Place(n, x)
			wantNumber(t, name("Place", n, x), got, e, 0, api.ErrRange)
		}
	}
}

// TestPlaceOfWrong has W1: there is no such number in Gray.
func TestPlaceOfWrong(t *testing.T) {
	for n := 0; n <= 12; n++ {
		many := power(2, n)
		for _, x := range []int{math.MinInt, -many - 1, -many, -2, -1, many, many + 1, 2 * many, 1 << 20, 1 << 32, math.MaxInt} {
			got, e := word.Place(n, x)
			wantNumber(t, name("Place", n, x), got, e, 0, api.ErrRange)
		}
	}
}

// TestGrayGoesOnByOneDigit has W5: whoever goes on, and comes back from the last to the first, turns one digit over.
func TestGrayGoesOnByOneDigit(t *testing.T) {
	for n := 1; n <= 12; n++ {
		list, e := word.Gray(n)
		if e != api.OK || len(list) != power(2, n) {
			t.Fatalf("Gray of %d: got %d numbers, error %d", n, len(list), e)
		}
		for i, x := range list {
			next := list[(i+1)%len(list)]
			if bits.OnesCount(uint(x^next)) != 1 {
				t.Errorf("Gray of %d: behind %d comes %d", n, x, next)
			}
		}
	}
}
