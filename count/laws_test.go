package count_test

import (
	"fmt"
	"slices"
	"testing"

	"parterre/api"
	"parterre/count"
	"parterre/group"
)

// TestBeadsOfPrimes has C4.
func TestBeadsOfPrimes(t *testing.T) {
	for _, n := range []int{2, 3, 5, 7, 11, 13, 17, 19, 23, 29, 31, 37, 41, 43, 47, 53, 59} {
		for k := 1; k <= 40; k++ {
			got, e := count.Beads(n, k)
			if e == api.ErrFull && k > 1 {
				break
			}
			wantNumber(t, fmt.Sprintf("Beads(%d, %d)", n, k), got, e, (power(k, n)-k)/n+k)
		}
	}
}

// TestPolya has C4: Colourings by Index.
func TestPolya(t *testing.T) {
	for _, m := range some() {
		index, e := count.Index(m.n, m.makers)
		if e != api.OK {
			t.Fatalf("%s: error %d", name("Index", m), e)
		}
		for _, colours := range []int{1, 2, 3, 10, 57, 200} {
			sum := 0
			for _, row := range index {
				cycles := 0
				for _, many := range row[1:] {
					cycles += many
				}
				sum += row[0] * power(colours, cycles)
			}
			got, e := count.Colourings(m.n, m.makers, colours)
			wantNumber(t, name("Colourings", m)+fmt.Sprint(" of ", colours), got, e, sum/order(t, m))
			if sum%order(t, m) != 0 {
				t.Errorf("%s: %v leaves a rest of %d", name("Index", m), index, sum)
			}
		}
	}
}

// TestIndexIsOfTheGroup has C3: its rows have all of the group, each with n points, those that stay as group tells them; each row is less than the one ahead.
func TestIndexIsOfTheGroup(t *testing.T) {
	for _, m := range some() {
		index, e := count.Index(m.n, m.makers)
		if e != api.OK {
			t.Fatalf("%s: error %d", name("Index", m), e)
		}
		sum, fixed := 0, make([]int, m.n+1)
		for i, row := range index {
			points := 0
			for long, many := range row[1:] {
				points += (long + 1) * many
			}
			if len(row) != m.n+1 || points != m.n || row[0] < 1 || i > 0 && slices.Compare(index[i-1][1:], row[1:]) <= 0 {
				t.Errorf("%s: got %v", name("Index", m), index)
			}
			sum += row[0]
			fixed[row[1]] += row[0]
		}
		want, _ := group.Fixed(m.n, m.makers)
		if sum != order(t, m) || !slices.Equal(fixed, want) {
			t.Errorf("%s: got %v", name("Index", m), index)
		}
	}
}

// TestRingsAreColourings has C1 by C2: of turns, and of turns over.
func TestRingsAreColourings(t *testing.T) {
	for n := 1; n <= 7; n++ {
		for _, colours := range []int{1, 2, 3, 4, 50, 200} {
			turned, e1 := count.Colourings(n, [][]int{turn(n)}, colours)
			got, e := count.Beads(n, colours)
			wantNumber(t, fmt.Sprintf("Beads(%d, %d)", n, colours), got, max(e, e1), turned)
			turned, e1 = count.Colourings(n, [][]int{turn(n), over(n)}, colours)
			got, e = count.Bracelets(n, colours)
			wantNumber(t, fmt.Sprintf("Bracelets(%d, %d)", n, colours), got, max(e, e1), turned)
		}
	}
}

// TestContentsAreColourings has C2: those of all contents are all; and no colour is ahead of another one.
func TestContentsAreColourings(t *testing.T) {
	for _, m := range some() {
		if m.n > 5 && order(t, m) > 200 {
			continue
		}
		for colours := 1; colours <= 3; colours++ {
			sum := 0
			for _, many := range contents(colours, m.n) {
				got, e := count.Content(m.n, m.makers, many)
				sum += got
				turned := slices.Clone(many)
				slices.Reverse(turned)
				other, e1 := count.Content(m.n, m.makers, turned)
				wantNumber(t, name("Content", m)+fmt.Sprint(" of ", turned), other, max(e, e1), got)
			}
			want, e := count.Colourings(m.n, m.makers, colours)
			wantNumber(t, name("all Content", m), sum, e, want)
		}
	}
}
