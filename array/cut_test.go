package array_test

import (
	"math"
	"testing"

	"parterre/api"
	"parterre/array"
)

// farColumns are none of any runs.
func farColumns() []int {
	return []int{-1, -2, -8, 8, 9, 64, 1 << 32, math.MinInt, math.MinInt + 1, math.MaxInt - 1, math.MaxInt}
}

// TestDrop has A2: each column of many runs, and those that are none.
func TestDrop(t *testing.T) {
	for _, k := range some() {
		width := len(k.runs[0])
		for column := range width {
			got, e := array.Drop(k.s, k.runs, column)
			if width == 1 {
				wantRows(t, name("Drop", k.name, column), got, e, nil, api.ErrShape)
			} else {
				wantRows(t, name("Drop", k.name, column), got, e, dropOf(k.runs, column), api.OK)
			}
		}
		for _, column := range append(farColumns(), width, width+1) {
			got, e := array.Drop(k.s, k.runs, column)
			wantRows(t, name("Drop", k.name, column), got, e, nil, api.ErrRange)
		}
	}
}

// TestTake has A2: each column and each level of many runs, and those that are none.
func TestTake(t *testing.T) {
	found := map[api.Errno]int{}
	for _, k := range some() {
		width := len(k.runs[0])
		for column := range width {
			for level := range k.s {
				want, wantE := takeOf(k.runs, column, level)
				if width == 1 {
					want, wantE = nil, api.ErrShape
				}
				found[wantE]++
				got, e := array.Take(k.s, k.runs, column, level)
				wantRows(t, name("Take", k.name, column, level), got, e, want, wantE)
			}
			for _, level := range []int{-1, -2, k.s, k.s + 1, 64, 1 << 32, math.MinInt, math.MaxInt} {
				want := api.ErrRange
				if width == 1 {
					want = api.ErrShape
				}
				got, e := array.Take(k.s, k.runs, column, level)
				wantRows(t, name("Take", k.name, column, level), got, e, nil, want)
			}
		}
		for _, column := range append(farColumns(), width, width+1) {
			for _, level := range []int{0, -1, k.s - 1, k.s, math.MaxInt} {
				got, e := array.Take(k.s, k.runs, column, level)
				wantRows(t, name("Take", k.name, column, level), got, e, nil, api.ErrRange)
			}
		}
	}
	for _, e := range []api.Errno{api.OK, api.ErrShape, api.ErrNone} {
		if found[e] == 0 {
			t.Errorf("no error %d", e)
		}
	}
}

// TestCutByHand has A2: runs keep their order, and those that are alike stay as many.
func TestCutByHand(t *testing.T) {
	runs := texts("210", "012", "210", "112", "200")
	got, e := array.Drop(3, runs, 0)
	wantRows(t, "Drop, 0", got, e, texts("10", "12", "10", "12", "00"), api.OK)
	got, e = array.Drop(3, runs, 1)
	wantRows(t, "Drop, 1", got, e, texts("20", "02", "20", "12", "20"), api.OK)
	got, e = array.Drop(3, runs, 2)
	wantRows(t, "Drop, 2", got, e, texts("21", "01", "21", "11", "20"), api.OK)
	got, e = array.Drop(3, runs, 3)
	wantRows(t, "Drop, 3", got, e, nil, api.ErrRange)
	got, e = array.Take(3, runs, 0, 2)
	wantRows(t, "Take, 0, 2", got, e, texts("10", "10", "00"), api.OK)
	got, e = array.Take(3, runs, 1, 1)
	wantRows(t, "Take, 1, 1", got, e, texts("20", "02", "20", "12"), api.OK)
	got, e = array.Take(3, runs, 2, 2)
	wantRows(t, "Take, 2, 2", got, e, texts("01", "11"), api.OK)
	got, e = array.Take(3, runs, 1, 2)
	wantRows(t, "Take, 1, 2", got, e, nil, api.ErrNone)
	got, e = array.Take(4, runs, 1, 3)
	wantRows(t, "Take, 1, 3 of 4", got, e, nil, api.ErrNone)
	got, e = array.Take(3, runs, 1, 3)
	wantRows(t, "Take, 1, 3 of 3", got, e, nil, api.ErrRange)
}

// TestOnlyColumn has A2: a column that is not there is told ahead of one that is the only one, and that ahead of the level.
func TestOnlyColumn(t *testing.T) {
	runs := texts("0", "1", "1")
	got, e := array.Drop(2, runs, 0)
	wantRows(t, "Drop, the only one", got, e, nil, api.ErrShape)
	got, e = array.Drop(2, runs, 1)
	wantRows(t, "Drop, behind the only one", got, e, nil, api.ErrRange)
	got, e = array.Drop(2, runs, -1)
	wantRows(t, "Drop, ahead of the only one", got, e, nil, api.ErrRange)
	for _, level := range []int{0, 1, 2, -1} {
		got, e = array.Take(2, runs, 0, level)
		wantRows(t, name("Take, the only one", level), got, e, nil, api.ErrShape)
		got, e = array.Take(2, runs, 1, level)
		wantRows(t, name("Take, behind the only one", level), got, e, nil, api.ErrRange)
	}
}
