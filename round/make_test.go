package round_test

import (
	"math"
	"testing"

	"parterre/api"
	"parterre/round"
)

// TestCircleByHand has R2.
func TestCircleByHand(t *testing.T) {
	for n, want := range map[int][][]int{
		2: {{1, 0}},
		4: {{3, 2, 1, 0}, {2, 3, 0, 1}, {1, 0, 3, 2}},
		6: {{5, 4, 3, 2, 1, 0}, {2, 5, 0, 4, 3, 1}, {4, 3, 5, 1, 0, 2}, {1, 0, 4, 5, 2, 3}, {3, 2, 1, 0, 5, 4}},
	} {
		got, e := round.Circle(n)
		wantRows(t, name("Circle", n), got, e, want, api.OK)
	}
}

// TestCircle has R2: all numbers of teams that there are, and those that are none.
func TestCircle(t *testing.T) {
	good := 0
	for n := -100; n <= 200; n++ {
		got, e := round.Circle(n)
		if n < 2 || n > 16 || n%2 != 0 {
			wantRows(t, name("Circle", n), got, e, nil, api.ErrRange)
			continue
		}
		wantRows(t, name("Circle", n), got, e, circleOf(n), api.OK)
		good++
	}
	if good != 8 {
		t.Errorf("%d are good, want 8", good)
	}
	for _, n := range []int{math.MinInt, math.MinInt + 2, -1 << 32, 1 << 32, 1<<32 + 2, 1<<32 + 4, math.MaxInt - 1, math.MaxInt} {
		got, e := round.Circle(n)
		wantRows(t, name("Circle", n), got, e, nil, api.ErrRange)
	}
}

// TestDevelopByHand has R3; whatever the order of the pairs, and of the numbers of each.
func TestDevelopByHand(t *testing.T) {
	for _, pairs := range [][][]int{{{1, 2}}, {{2, 1}}} {
		got, e := round.Develop(3, pairs)
		wantRows(t, name("Develop", 3, pairs), got, e, [][]int{{3, 2, 1, 0}, {2, 3, 0, 1}, {1, 0, 3, 2}}, api.OK)
	}
	for _, pairs := range [][][]int{{{1, 4}, {2, 3}}, {{3, 2}, {1, 4}}, {{4, 1}, {3, 2}}} {
		got, e := round.Develop(5, pairs)
		wantRows(t, name("Develop", 5, pairs), got, e, circleOf(6), api.OK)
	}
	want := [][]int{
		{7, 5, 3, 2, 6, 1, 4, 0},
		{5, 7, 6, 4, 3, 0, 2, 1},
		{3, 6, 7, 0, 5, 4, 1, 2},
		{2, 4, 0, 7, 1, 6, 5, 3},
		{6, 3, 5, 1, 7, 2, 0, 4},
		{1, 0, 4, 6, 2, 7, 3, 5},
		{4, 2, 1, 5, 0, 3, 7, 6},
	}
	for _, pairs := range [][][]int{{{2, 3}, {4, 6}, {1, 5}}, {{5, 1}, {3, 2}, {4, 6}}} {
		got, e := round.Develop(7, pairs)
		wantRows(t, name("Develop", 7, pairs), got, e, want, api.OK)
	}
}

// TestDevelop has R3: all starters that there are.
func TestDevelop(t *testing.T) {
	for v := 3; v <= 15; v += 2 {
		next := numbers(v)
		for _, pairs := range starters(v) {
			pairs = strewnStarter(pairs, next)
			got, e := round.Develop(v, pairs)
			wantRows(t, name("Develop", v, pairs), got, e, developOf(v, pairs), api.OK)
		}
	}
}
