package design_test

import (
	"slices"
	"testing"

	"parterre/api"
	"parterre/design"
)

// binomial is how many k of n there are.
func binomial(n, k int) int {
	out := 1
	for i := 1; i <= k; i++ {
		out = out * (n - k + i) / i
	}
	return out
}

// levelled are designs of a level, also such as are made of others.
func levelled() []api.Design {
	var out []api.Design
	for _, b := range books() {
		out = append(out, b.d, complement(b.d))
		if len(b.d.Blocks) <= 100 {
			out = append(out, api.Design{Points: b.d.Points, Blocks: slices.Concat(b.d.Blocks, b.d.Blocks)})
		}
		if b.deep > 2 {
			out = append(out, derived(b.d, 1))
		}
	}
	for n := 2; n <= 9; n++ {
		for k := 0; k <= n; k++ {
			out = append(out, all(n, k))
		}
	}
	return out
}

// TestFisher has D5: where each two points lie together equally often, there are as many blocks as points, or more.
func TestFisher(t *testing.T) {
	asMany, more := 0, 0
	for _, d := range slices.Concat(levelled(), tiny()) {
		if d.Points < 2 {
			continue
		}
		k, _, e := design.Level(d, 2)
		if e != api.OK || k < 2 || k >= d.Points {
			continue
		}
		switch {
		case len(d.Blocks) < d.Points:
			t.Errorf("%s: fewer blocks than points", name("Level at 2", d))
		case len(d.Blocks) == d.Points:
			asMany++
		default:
			more++
		}
	}
	if asMany < 10 || more < 10 {
		t.Errorf("%d have as many blocks as points, %d more", asMany, more)
	}
}

// TestRyser has D5: where there are as many blocks as points, each two blocks meet in lambda points, so that the dual is of the same kind.
func TestRyser(t *testing.T) {
	for _, d := range levelled() {
		k, lambda, e := design.Level(d, 2)
		if e != api.OK || k < 2 || k >= d.Points || len(d.Blocks) != d.Points {
			continue
		}
		got, e := design.Meets(d)
		wantList(t, name("Meets", d), got, e, []int{lambda})
		other, e := design.Dual(d)
		if e != api.OK {
			t.Errorf("%s: error %d", name("Dual", d), e)
		}
		k1, lambda1, e := design.Level(other, 2)
		wantLevel(t, name("Level at 2 of the dual", d), k1, lambda1, e, k, lambda)
	}
}

// TestLowerLevels has D5: what is of a level is of all lower ones, and how often is what counting says, where blocks are long enough.
func TestLowerLevels(t *testing.T) {
	told := 0
	for _, d := range slices.Concat(levelled(), tiny(), strewnOnes()) {
		for high := 1; high <= min(4, d.Points); high++ {
			k, lambda, e := design.Level(d, high)
			if e != api.OK || k < high {
				continue
			}
			told++
			for low := range high {
				want := lambda * binomial(d.Points-low, high-low) / binomial(k-low, high-low)
				k1, lambda1, e := design.Level(d, low)
				wantLevel(t, name("Level", d), k1, lambda1, e, k, want)
			}
		}
	}
	if told < 200 {
		t.Errorf("only %d are of a level", told)
	}
}

// TestLevelOfTheComplement has D5: it is of the same level, where its blocks are long enough.
func TestLevelOfTheComplement(t *testing.T) {
	for _, d := range slices.Concat(levelled(), tiny()) {
		for deep := 0; deep <= min(4, d.Points); deep++ {
			k, _, e := design.Level(d, deep)
			if e != api.OK || k < deep || d.Points-k < deep {
				continue
			}
			other, _ := design.Complement(d)
			want := len(d.Blocks) * binomial(d.Points-k, deep) / binomial(d.Points, deep)
			k1, lambda, e := design.Level(other, deep)
			wantLevel(t, name("Level of the Complement", d), k1, lambda, e, d.Points-k, want)
		}
	}
}

// TestWhatLeadsThereLeadsBack: the complement of the complement, and the dual of the dual, are the design.
func TestWhatLeadsThereLeadsBack(t *testing.T) {
	for _, d := range some() {
		there, _ := design.Complement(d)
		back, e := design.Complement(there)
		wantDesign(t, name("Complement of the Complement", d), back, e, d)
		if there, e = design.Dual(d); e == api.OK {
			back, e = design.Dual(there)
			wantDesign(t, name("Dual of the Dual", d), back, e, d)
		}
	}
}

// TestDerivedAndResidualOfTheBooks: what is made of known ones is known.
func TestDerivedAndResidualOfTheBooks(t *testing.T) {
	eleven, e := design.Derived(twelve(), 5)
	k, lambda, e1 := design.Level(eleven, 4)
	wantLevel(t, "twelve, derived", k, lambda, e|e1, 5, 1)
	ten, e := design.Derived(eleven, 10)
	k, lambda, e1 = design.Level(ten, 3)
	wantLevel(t, "twelve, derived twice", k, lambda, e|e1, 4, 1)
	seven1, e := design.Derived(fours(8), 3)
	k, lambda, e1 = design.Level(seven1, 2)
	wantLevel(t, "fours, derived", k, lambda, e|e1, 3, 1)
	for block := range 13 {
		nine, e := design.Residual(hyperplanes(3, 3), block)
		k, lambda, e1 = design.Level(nine, 2)
		wantLevel(t, "a plane without a line", k, lambda, e|e1, 3, 1)
		if list, e := design.Parallel(nine); e != api.OK || len(list) != 3 {
			t.Errorf("a plane without a line: got %v, error %d", list, e)
		}
	}
	for block := range 11 {
		six, e := design.Residual(moved(11, 1, 3, 4, 5, 9), block)
		k, lambda, e1 = design.Level(six, 2)
		wantLevel(t, "squares modulo 11 without one", k, lambda, e|e1, 3, 2)
	}
}
