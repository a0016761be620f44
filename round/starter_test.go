package round_test

import (
	"math"
	"slices"
	"testing"

	"parterre/api"
	"parterre/round"
)

// wrongPairs is what a starter is modulo, its pairs, and what is wrong with them.
type wrongPairs struct {
	v     int
	pairs [][]int
	want  api.Errno
}

// wrongStarters have each error of R3; where several apply, the one that is said first.
func wrongStarters() []wrongPairs {
	three, seven := [][]int{{1, 2}}, [][]int{{2, 3}, {4, 6}, {1, 5}}
	fifteen := [][]int{{1, 14}, {2, 13}, {3, 12}, {4, 11}, {5, 10}, {6, 9}, {7, 8}}
	return []wrongPairs{
		{1, nil, api.ErrRange},
		{2, nil, api.ErrRange},
		{2, three, api.ErrRange},
		{0, nil, api.ErrRange},
		{-1, nil, api.ErrRange},
		{-3, three, api.ErrRange},
		{-7, seven, api.ErrRange},
		{4, three, api.ErrRange},
		{6, seven, api.ErrRange},
		{8, seven, api.ErrRange},
		{14, fifteen, api.ErrRange},
		{16, fifteen, api.ErrRange},
		{17, fifteen, api.ErrRange},
		{17, append(cloned(fifteen), []int{15, 16}), api.ErrRange},
		{17, [][]int{{1, 16}, {2, 15}, {3, 14}, {4, 13}, {5, 12}, {6, 11}, {7, 10}, {8, 9}}, api.ErrRange},
		{1<<32 + 3, three, api.ErrRange},
		{1<<32 + 7, seven, api.ErrRange},
		{math.MinInt, nil, api.ErrRange},
		{math.MinInt + 1, nil, api.ErrRange},
		{math.MaxInt, seven, api.ErrRange},
		{2, [][]int{nil, nil}, api.ErrRange},
		{17, [][]int{{0}}, api.ErrRange},
		{3, nil, api.ErrShape},
		{3, [][]int{{1, 2}, {1, 2}}, api.ErrShape},
		{3, [][]int{{1, 2}, nil}, api.ErrShape},
		{3, [][]int{{0, 9}, {1, 2}}, api.ErrShape},
		{7, seven[:2], api.ErrShape},
		{7, slices.Concat(seven, seven[:1]), api.ErrShape},
		{9, seven, api.ErrShape},
		{7, [][]int{{9, 9}, {0, 0}}, api.ErrShape},
		{7, make([][]int, 2), api.ErrShape},
		{7, make([][]int, 3), api.ErrShape},
		{7, make([][]int, 4), api.ErrShape},
		{15, make([][]int, 1000), api.ErrShape},
		{15, fifteen[1:], api.ErrShape},
		{3, [][]int{nil}, api.ErrShape},
		{3, [][]int{{}}, api.ErrShape},
		{3, [][]int{{1}}, api.ErrShape},
		{3, [][]int{{0}}, api.ErrShape},
		{3, [][]int{{1, 2, 0}}, api.ErrShape},
		{3, [][]int{{1, 2, 1}}, api.ErrShape},
		{3, [][]int{{1, 2, 1, 2}}, api.ErrShape},
		{3, [][]int{{0, 3, 9}}, api.ErrShape},
		{7, [][]int{{2, 3}, {4, 6}, {1}}, api.ErrShape},
		{7, [][]int{{2, 3}, {2, 3}, {1}}, api.ErrShape},
		{7, [][]int{{2, 3}, {4, 6}, {1, 5, 5}}, api.ErrShape},
		{7, [][]int{{2, 3}, {4}, {0, 7}}, api.ErrShape},
		{3, [][]int{{0, 1}}, api.ErrRange},
		{3, [][]int{{1, 0}}, api.ErrRange},
		{3, [][]int{{3, 1}}, api.ErrRange},
		{3, [][]int{{1, 3}}, api.ErrRange},
		{3, [][]int{{-1, 1}}, api.ErrRange},
		{3, [][]int{{1, -1}}, api.ErrRange},
		{3, [][]int{{0, 0}}, api.ErrRange},
		{7, [][]int{{2, 3}, {4, 6}, {1, 12}}, api.ErrRange},
		{7, [][]int{{2, 3}, {4, 6}, {8, 5}}, api.ErrRange},
		{7, [][]int{{2, 3}, {4, 7}, {1}}, api.ErrRange},
		{7, [][]int{{2, 3}, {0, 6}, {1}}, api.ErrRange},
		{7, [][]int{{2, 3}, {2, 3}, {0, 3}}, api.ErrRange},
		{7, [][]int{{2, 2}, {2, 2}, {2, 7}}, api.ErrRange},
		{15, instead(fifteen, 6, 1, 15), api.ErrRange},
		{15, instead(fifteen, 6, 1, 0), api.ErrRange},
		{15, instead(fifteen, 6, 1, 1<<32+8), api.ErrRange},
		{15, instead(fifteen, 0, 0, math.MinInt), api.ErrRange},
		{15, instead(fifteen, 0, 0, math.MaxInt), api.ErrRange},
		{3, [][]int{{1, 1}}, api.ErrTwice},
		{3, [][]int{{2, 2}}, api.ErrTwice},
		{5, [][]int{{1, 2}, {3, 4}}, api.ErrTwice}, // each difference twice
		{5, [][]int{{1, 3}, {2, 4}}, api.ErrTwice},
		{5, [][]int{{1, 2}, {1, 3}}, api.ErrTwice}, // a number twice
		{5, [][]int{{1, 4}, {4, 1}}, api.ErrTwice},
		{5, [][]int{{1, 1}, {2, 3}}, api.ErrTwice},
		{7, [][]int{{2, 3}, {4, 6}, {4, 1}}, api.ErrTwice},
		{7, [][]int{{1, 2}, {3, 5}, {4, 6}}, api.ErrTwice},
		{7, [][]int{{1, 2}, {3, 4}, {5, 6}}, api.ErrTwice},
		{7, [][]int{{1, 3}, {2, 6}, {5, 4}}, api.OK},
		{15, instead(fifteen, 6, 1, 7), api.ErrTwice},
		{15, [][]int{{1, 13}, {2, 14}, {3, 12}, {4, 11}, {5, 10}, {6, 9}, {7, 8}}, api.ErrTwice},
	}
}

// TestStarterOfWrong has R3's errors.
func TestStarterOfWrong(t *testing.T) {
	for _, w := range wrongStarters() {
		wantError(t, name("Starter", w.v, w.pairs), round.Starter(w.v, w.pairs), w.want)
		wantError(t, name("what the words say", w.v, w.pairs), wrongStarter(w.v, w.pairs), w.want)
	}
}

// TestStarterFirst has R3: Strong and Develop say this first, and nothing beside it.
func TestStarterFirst(t *testing.T) {
	for _, w := range wrongStarters() {
		if w.want == api.OK {
			continue
		}
		got, e := round.Strong(w.v, w.pairs)
		wantTruth(t, name("Strong", w.v, w.pairs), got, e, false, w.want)
		rounds, e := round.Develop(w.v, w.pairs)
		wantRows(t, name("Develop", w.v, w.pairs), rounds, e, nil, w.want)
	}
}

// TestStarterOfSizes has R3: each v, each number of pairs and of numbers in these, up to and beyond its end.
func TestStarterOfSizes(t *testing.T) {
	good := 0
	for v := -20; v <= 40; v++ {
		for many := range 12 {
			for long := range 5 {
				var pairs [][]int
				for x := 1; x <= many; x++ {
					pairs = append(pairs, []int{x, v - x, 1, 1}[:long])
				}
				want := wrongStarter(v, pairs)
				wantError(t, name("Starter", v, pairs), round.Starter(v, pairs), want)
				if want == api.OK {
					good++
				}
			}
		}
	}
	if good != 7 {
		t.Errorf("%d sizes are good, want 7", good)
	}
}

// TestStarterOfEachPair has R3: each length and each number about the bounds, in each place, of a starter of each v.
func TestStarterOfEachPair(t *testing.T) {
	for v := 3; v <= 15; v += 2 {
		next := numbers(v)
		all := starters(v)
		for range 10 {
			pairs := strewnStarter(all[next(len(all))], next)
			for i := range pairs {
				for long := range 5 {
					for _, x := range []int{-1, 0, 1, v - 1, v} {
						other := cloned(pairs)
						other[i] = slices.Repeat([]int{x}, long)
						wantError(t, name("Starter", v, other), round.Starter(v, other), wrongStarter(v, other))
					}
				}
				for place := range 2 {
					for x := -2; x <= 2*v+1; x++ {
						other := instead(pairs, i, place, x)
						wantError(t, name("Starter", v, other), round.Starter(v, other), wrongStarter(v, other))
					}
				}
			}
		}
	}
}

// TestStarterOfAll has R3: all lists of pairs modulo 3, 5 and 7, with numbers about the bounds.
func TestStarterOfAll(t *testing.T) {
	for _, all := range []struct{ v, low, high, good int }{
		{3, -2, 5, 2},
		{5, -1, 6, 2 * 4},
		{7, 1, 7, 3 * 6 * 8},
	} {
		good := 0
		for _, list := range lists(all.low, all.high, all.v-1) {
			pairs := cut(list, 2)
			e := round.Starter(all.v, pairs)
			wantError(t, name("Starter", all.v, pairs), e, wrongStarter(all.v, pairs))
			if e == api.OK {
				good++
			}
		}
		if good != all.good {
			t.Errorf("modulo %d %d are starters, want %d", all.v, good, all.good)
		}
	}
}

// TestStarters has R3: of each v there are as many as books tell, and nothing is wrong with any; some with two numbers exchanged are none.
func TestStarters(t *testing.T) {
	for v, many := range map[int]int{3: 1, 5: 1, 7: 3, 9: 9, 11: 25, 13: 133, 15: 631} {
		all := starters(v)
		if len(all) != many {
			t.Errorf("modulo %d there are %d starters, want %d", v, len(all), many)
		}
		next := numbers(v)
		for _, pairs := range all {
			pairs = strewnStarter(pairs, next)
			wantError(t, name("Starter", v, pairs), round.Starter(v, pairs), api.OK)
			for range 10 {
				i, j, place := next(len(pairs)), next(len(pairs)), next(2)
				other := instead(instead(pairs, i, place, pairs[j][0]), j, 0, pairs[i][place])
				wantError(t, name("Starter", v, other), round.Starter(v, other), wrongStarter(v, other))
			}
		}
	}
}

// TestStrong has R3: all starters. There are such with and without a sum that is 0, and with and without two that are alike.
func TestStrong(t *testing.T) {
	found := map[[2]bool]int{}
	strong := map[int]int{}
	for v := 3; v <= 15; v += 2 {
		next := numbers(v)
		for _, pairs := range starters(v) {
			pairs = strewnStarter(pairs, next)
			got, e := round.Strong(v, pairs)
			wantTruth(t, name("Strong", v, pairs), got, e, strongOf(v, pairs), api.OK)
			zero, alike := sumsOf(v, pairs)
			found[[2]bool{zero, alike}]++
			if got {
				strong[v]++
			}
		}
	}
	if len(found) != 4 {
		t.Errorf("found %v", found)
	}
	for v, want := range map[int]int{3: 0, 5: 0, 7: 2, 9: 0, 11: 4, 13: 8, 15: 32} {
		if strong[v] != want {
			t.Errorf("modulo %d %d are strong, want %d", v, strong[v], want)
		}
	}
}

// TestStrongByHand has R3.
func TestStrongByHand(t *testing.T) {
	for _, k := range []struct {
		v      int
		pairs  [][]int
		strong bool
	}{
		{3, [][]int{{1, 2}}, false},
		{5, [][]int{{1, 4}, {2, 3}}, false},
		{7, [][]int{{2, 3}, {4, 6}, {1, 5}}, true},
		{7, [][]int{{5, 4}, {3, 1}, {6, 2}}, true},
		{7, [][]int{{1, 6}, {2, 5}, {3, 4}}, false},
		{11, [][]int{{1, 2}, {7, 9}, {3, 6}, {4, 8}, {5, 10}}, true},
		{13, [][]int{{1, 2}, {3, 6}, {4, 11}, {5, 9}, {7, 12}, {8, 10}}, true},
		{15, [][]int{{1, 3}, {2, 7}, {4, 10}, {5, 8}, {6, 14}, {9, 13}, {11, 12}}, true},
		{15, [][]int{{1, 14}, {2, 13}, {3, 12}, {4, 11}, {5, 10}, {6, 9}, {7, 8}}, false},
	} {
		got, e := round.Strong(k.v, k.pairs)
		wantTruth(t, name("Strong", k.v, k.pairs), got, e, k.strong, api.OK)
	}
}
