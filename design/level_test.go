package design_test

import (
	"math"
	"slices"
	"testing"

	"parterre/api"
	"parterre/design"
)

// TestLevel has D2, of all kinds of designs, held against lists.
func TestLevel(t *testing.T) {
	told := 0
	for _, d := range some() {
		for deep := 0; deep <= min(4, d.Points); deep++ {
			wantK, wantLambda, ok := level(d, deep)
			k, lambda, e := design.Level(d, deep)
			if !ok {
				wantNoLevel(t, name("Level", d), k, lambda, e, api.ErrNone)
				continue
			}
			told++
			wantLevel(t, name("Level", d), k, lambda, e, wantK, wantLambda)
		}
	}
	if told < 200 {
		t.Errorf("only %d are of a level", told)
	}
}

// TestLevelOfTheBooks has D2: how often points lie together in designs that are known.
func TestLevelOfTheBooks(t *testing.T) {
	for _, b := range books() {
		k, lambda, e := design.Level(b.d, b.deep)
		wantLevel(t, b.name, k, lambda, e, b.size, b.lambda)
		if b.deep < min(4, b.size) {
			k, lambda, e = design.Level(b.d, b.deep+1)
			wantNoLevel(t, b.name, k, lambda, e, api.ErrNone)
		}
		k, lambda, e = design.Level(b.d, 0)
		wantLevel(t, b.name, k, lambda, e, b.size, len(b.d.Blocks))
	}
}

// TestLevelOfOneBlockMore has D2: one point that lies otherwise, first or last, spoils it.
func TestLevelOfOneBlockMore(t *testing.T) {
	for _, b := range books() {
		for at := 0; at <= len(b.d.Blocks) && len(b.d.Blocks) < 200; at += max(1, len(b.d.Blocks)) {
			for _, block := range [][]int{first(b.size), last(b.d.Points, b.size)} {
				d := api.Design{Points: b.d.Points, Blocks: slices.Insert(slices.Clone(b.d.Blocks), at, block)}
				k, lambda, e := design.Level(d, b.deep)
				wantNoLevel(t, b.name, k, lambda, e, api.ErrNone)
				k, lambda, e = design.Level(d, 0)
				wantLevel(t, b.name, k, lambda, e, b.size, len(d.Blocks))
			}
			d := api.Design{Points: b.d.Points, Blocks: slices.Insert(slices.Clone(b.d.Blocks), at, nil)}
			k, lambda, e := design.Level(d, 0)
			wantNoLevel(t, b.name, k, lambda, e, api.ErrNone)
		}
	}
}

// TestLevelOfBlocksThatAreThereTwice has D2: each is counted.
func TestLevelOfBlocksThatAreThereTwice(t *testing.T) {
	for times := 1; times <= 28; times++ {
		d := api.Design{Points: 7, Blocks: slices.Repeat(seven().Blocks, times)}
		k, lambda, e := design.Level(d, 2)
		wantLevel(t, "seven, more than once", k, lambda, e, 3, times)
	}
}

// TestLevelAboveTheSize has D2: where blocks are too short for t points, each t points lie together in none, and that is as many.
func TestLevelAboveTheSize(t *testing.T) {
	k, lambda, e := design.Level(seven(), 4)
	wantLevel(t, "seven at 4", k, lambda, e, 3, 0)
	short := api.Design{Points: 5, Blocks: [][]int{{1}, {1}}}
	k, lambda, e = design.Level(short, 2)
	wantLevel(t, name("Level at 2", short), k, lambda, e, 1, 0)
	k, lambda, e = design.Level(short, 1)
	wantNoLevel(t, name("Level at 1", short), k, lambda, e, api.ErrNone)
	empty := api.Design{Points: 5, Blocks: make([][]int, 3)}
	k, lambda, e = design.Level(empty, 0)
	wantLevel(t, name("Level at 0", empty), k, lambda, e, 0, 3)
	k, lambda, e = design.Level(empty, 1)
	wantLevel(t, name("Level at 1", empty), k, lambda, e, 0, 0)
}

// TestLevelOfThatManyPoints has D2's edge: t is as many as Points.
func TestLevelOfThatManyPoints(t *testing.T) {
	for n := 1; n <= 4; n++ {
		whole := first(n)
		d := api.Design{Points: n, Blocks: [][]int{whole, whole}}
		k, lambda, e := design.Level(d, n)
		wantLevel(t, name("Level", d), k, lambda, e, n, 2)
		k, lambda, e = design.Level(d, n+1)
		wantNoLevel(t, name("Level", d), k, lambda, e, api.ErrRange)
	}
}

// TestLevelOfNoSuchNumber has D2's ErrRange, which comes ahead of ErrNone.
func TestLevelOfNoSuchNumber(t *testing.T) {
	for _, d := range some() {
		for _, deep := range []int{-1, 5, 6, 41, 64, 1 << 32, math.MinInt, math.MaxInt, d.Points + 1, -d.Points} {
			if deep >= 0 && deep <= min(4, d.Points) {
				continue
			}
			k, lambda, e := design.Level(d, deep)
			wantNoLevel(t, name("Level", d), k, lambda, e, api.ErrRange)
		}
	}
}

// TestLevelOfNoBlocks has D2: ErrNone, and ErrRange ahead of it.
func TestLevelOfNoBlocks(t *testing.T) {
	for n := 1; n <= 40; n++ {
		for deep := -1; deep <= 5; deep++ {
			want := api.ErrNone
			if deep < 0 || deep > min(4, n) {
				want = api.ErrRange
			}
			k, lambda, e := design.Level(api.Design{Points: n}, deep)
			wantNoLevel(t, "Level of no blocks", k, lambda, e, want)
		}
	}
}
