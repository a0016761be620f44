package design_test

import (
	"math"
	"slices"
	"testing"

	"parterre/api"
	"parterre/design"
)

// TestComplement has D3.
func TestComplement(t *testing.T) {
	for _, d := range some() {
		got, e := design.Complement(d)
		wantDesign(t, name("Complement", d), got, e, complement(d))
	}
	for n := 1; n <= 40; n++ {
		whole := first(n)
		got, e := design.Complement(api.Design{Points: n, Blocks: [][]int{nil, whole}})
		wantDesign(t, "Complement of none and of all", got, e, api.Design{Points: n, Blocks: [][]int{whole, nil}})
		got, e = design.Complement(api.Design{Points: n})
		wantDesign(t, "Complement of no blocks", got, e, api.Design{Points: n})
	}
}

// TestDual has D3.
func TestDual(t *testing.T) {
	told := 0
	for _, d := range some() {
		got, e := design.Dual(d)
		switch {
		case len(d.Blocks) > 40:
			wantNoDesign(t, name("Dual", d), got, e, api.ErrFull)
		case len(d.Blocks) == 0:
			wantNoDesign(t, name("Dual", d), got, e, api.ErrNone)
		default:
			wantDesign(t, name("Dual", d), got, e, dual(d))
			told++
		}
	}
	if told < 100 {
		t.Errorf("only %d have a dual", told)
	}
}

// TestDualOfSoManyBlocks has D3's edges: none, one, 40, 41, and as many as may be.
func TestDualOfSoManyBlocks(t *testing.T) {
	for b := 0; b <= 200; b++ {
		d := strewn(5, b, 2, b)
		got, e := design.Dual(d)
		switch {
		case b == 0:
			wantNoDesign(t, "Dual of no blocks", got, e, api.ErrNone)
		case b > 40:
			wantNoDesign(t, "Dual of many blocks", got, e, api.ErrFull)
		default:
			wantDesign(t, name("Dual", d), got, e, dual(d))
		}
	}
}

// TestDerived has D3, by each point.
func TestDerived(t *testing.T) {
	for _, d := range some() {
		for p := 0; p < d.Points; p++ {
			got, e := design.Derived(d, p)
			if d.Points == 1 {
				wantNoDesign(t, name("Derived", d), got, e, api.ErrShape)
				continue
			}
			wantDesign(t, name("Derived", d), got, e, derived(d, p))
		}
	}
	d := api.Design{Points: 3, Blocks: [][]int{{1}, nil, {0, 2}, {0, 1, 2}, {1}}}
	got, e := design.Derived(d, 1)
	wantDesign(t, name("Derived", d), got, e, api.Design{Points: 2, Blocks: [][]int{nil, {0, 1}, nil}})
}

// TestDerivedByNoPoint has D3's ErrRange, which comes ahead of ErrShape.
func TestDerivedByNoPoint(t *testing.T) {
	for _, d := range some() {
		for _, p := range []int{-1, d.Points, d.Points + 1, 64, 1 << 32, math.MinInt, math.MaxInt} {
			got, e := design.Derived(d, p)
			wantNoDesign(t, name("Derived", d), got, e, api.ErrRange)
		}
	}
}

// TestResidual has D3, by each block.
func TestResidual(t *testing.T) {
	for _, d := range some() {
		for i, b := range d.Blocks {
			got, e := design.Residual(d, i)
			if len(b) == d.Points {
				wantNoDesign(t, name("Residual", d), got, e, api.ErrShape)
				continue
			}
			wantDesign(t, name("Residual", d), got, e, residual(d, i))
		}
	}
	d := api.Design{Points: 4, Blocks: [][]int{{1, 2}, {0, 1, 2, 3}, {1, 2}, nil, {2, 3}}}
	got, e := design.Residual(d, 2)
	wantDesign(t, name("Residual", d), got, e, api.Design{Points: 2, Blocks: [][]int{nil, {0, 1}, nil, {1}}})
}

// TestResidualByNoBlock has D3's ErrRange, which comes ahead of ErrShape.
func TestResidualByNoBlock(t *testing.T) {
	for _, d := range some() {
		for _, i := range []int{-1, len(d.Blocks), len(d.Blocks) + 1, 200, 1 << 32, math.MinInt, math.MaxInt} {
			if i < len(d.Blocks) && i >= 0 {
				continue
			}
			got, e := design.Residual(d, i)
			wantNoDesign(t, name("Residual", d), got, e, api.ErrRange)
		}
	}
}

// TestMadeOnesAreDesigns: what is made is of D1 again, so that it can be handed in.
func TestMadeOnesAreDesigns(t *testing.T) {
	for _, d := range slices.Concat(strewnOnes(), []api.Design{seven(), twelve(), hyperplanes(3, 4)}) {
		made := []func() (api.Design, api.Errno){
			func() (api.Design, api.Errno) { return design.Complement(d) },
			func() (api.Design, api.Errno) { return design.Dual(d) },
			func() (api.Design, api.Errno) { return design.Derived(d, d.Points/2) },
			func() (api.Design, api.Errno) { return design.Residual(d, len(d.Blocks)/2) },
		}
		for i, one := range made {
			if got, e := one(); e == api.OK && design.Check(got) != api.OK {
				t.Errorf("%s: what is made as number %d is none: %v", name("design", d), i, got)
			}
		}
	}
}
