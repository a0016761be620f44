package differ_test

import (
	"fmt"
	"slices"
	"testing"

	"parterre/api"
	"parterre/design"
	"parterre/differ"
	"parterre/field"
)

// levelled is a set that differ tells a Level of.
type levelled struct {
	ring
	level int
}

// levelledOnes are all of few numbers, and all that are made or told by books, with what is left out of them.
func levelledOnes() []levelled {
	var sets []ring
	for v := 2; v <= 13; v++ {
		sets = append(sets, allSets(v)...)
	}
	for _, k := range knownOnes() {
		sets = append(sets, k.ring, rest(k.ring), turned(k.ring, 1, k.v-1))
	}
	for _, r := range madeOnes() {
		sets = append(sets, r, rest(r))
	}
	var out []levelled
	for _, r := range sets {
		if n, e := differ.Level(r.v, r.set); e == api.OK {
			out = append(out, levelled{r, n})
		}
	}
	return out
}

// madeOnes are all of Paley's and Singer's sets.
func madeOnes() []ring {
	var out []ring
	for p := range 61 {
		if set, e := differ.Paley(p); e == api.OK {
			out = append(out, ring{p, set})
		}
	}
	for _, f := range fields(3) {
		if v, set, e := differ.Singer(f); e == api.OK {
			out = append(out, ring{v, set})
		}
	}
	return out
}

// TestMadeOnesAreOfALevel has D4's last: of half of the numbers but 0 and 1 for Paley's, and what counting says for Singer's.
func TestMadeOnesAreOfALevel(t *testing.T) {
	if n := len(madeOnes()); n != 9+19 {
		t.Errorf("%d are made", n)
	}
	for p := range 61 {
		if set, e := differ.Paley(p); e == api.OK {
			n, e := differ.Level(p, set)
			wantNumber(t, fmt.Sprintf("Level of Paley of %d", p), n, e, (p-3)/4, api.OK)
		}
	}
	for _, f := range fields(3) {
		v, set, e := differ.Singer(f)
		if e != api.OK {
			continue
		}
		n, e := differ.Level(v, set)
		p, k := f.Prime, f.Degree
		wantNumber(t, fmt.Sprintf("Level of Singer of %v", f), n, e, (power(p, k-2)-1)/(p-1), api.OK)
		if len(set) != (power(p, k-1)-1)/(p-1) {
			t.Errorf("Singer of %v: %d numbers", f, len(set))
		}
	}
}

// TestDevelopedIsADesign has D4's first, by chapter 8.
func TestDevelopedIsADesign(t *testing.T) {
	for _, r := range levelledOnes() {
		if len(r.set) < 2 || r.v > 40 {
			continue
		}
		d, e := differ.Develop(r.v, r.set)
		if e != api.OK || d.Points != r.v || len(d.Blocks) != r.v || design.Check(d) != api.OK {
			t.Errorf("%s: got %v, error %d", name("Develop", r.ring), d, e)
			continue
		}
		k, lambda, e := design.Level(d, 2)
		if k != len(r.set) || lambda != r.level || e != api.OK {
			t.Errorf("%s: Level at 2: got %d, %d, error %d", name("Develop", r.ring), k, lambda, e)
		}
	}
}

// TestPrimesMultiply has D4's second (M. Hall; Ryser).
func TestPrimesMultiply(t *testing.T) {
	asked := 0
	for _, r := range levelledOnes() {
		found, _ := differ.Multipliers(r.v, r.set)
		for p := 2; p <= 130; p++ {
			if !prime(p) || (len(r.set)-r.level)%p != 0 || r.v%p == 0 || p <= r.level {
				continue
			}
			if r.level < len(r.set) { // or each prime divides it
				asked++
			}
			if !slices.Contains(found, p%r.v) {
				t.Errorf("%s: got %v, without %d", name("Multipliers", r.ring), found, p)
			}
		}
	}
	if asked < 100 {
		t.Errorf("only %d primes are asked for", asked)
	}
}

// TestRestIsOfALevel has D4's third, by what counting says.
func TestRestIsOfALevel(t *testing.T) {
	for _, r := range levelledOnes() {
		other := rest(r.ring)
		n, e := differ.Level(other.v, other.set)
		wantNumber(t, name("Level of what is left out", r.ring), n, e, r.v-2*len(r.set)+r.level, api.OK)
	}
}

// TestCountingBounds: all ordered pairs are shared out over all numbers but 0.
func TestCountingBounds(t *testing.T) {
	for _, r := range levelledOnes() {
		if k := len(r.set); k*(k-1) != r.level*(r.v-1) {
			t.Errorf("%s: got %d", name("Level", r.ring), r.level)
		}
	}
}

// TestMovedIsAlike: a set that is moved, or multiplied by what has no divisor in common with v, has the same Level and Multipliers.
func TestMovedIsAlike(t *testing.T) {
	for _, r := range strewn() {
		n, e := differ.Level(r.v, r.set)
		m, _ := differ.Multipliers(r.v, r.set)
		for _, times := range units(r.v) {
			other := turned(r, times, (times+5)%r.v)
			n1, e1 := differ.Level(other.v, other.set)
			wantNumber(t, name("Level", other), n1, e1, n, e)
			m1, e2 := differ.Multipliers(other.v, other.set)
			wantList(t, name("Multipliers", other), m1, e2, m, api.OK)
		}
	}
}

// TestMultipliersAreAGroup: 1 is one, and products are.
func TestMultipliersAreAGroup(t *testing.T) {
	for _, r := range strewn() {
		m, _ := differ.Multipliers(r.v, r.set)
		if r.v > 1 && m[0] != 1 {
			t.Errorf("%s: got %v", name("Multipliers", r), m)
		}
		for _, x := range m {
			for _, y := range m {
				if !slices.Contains(m, x*y%r.v) {
					t.Errorf("%s: got %v, without %d times %d", name("Multipliers", r), m, x, y)
				}
			}
		}
	}
}

// TestSquaresMultiplyPaley: just the squares do, where there are more than one.
func TestSquaresMultiplyPaley(t *testing.T) {
	for p := 7; p <= 60; p++ {
		set, e := differ.Paley(p)
		if e != api.OK {
			continue
		}
		m, e := differ.Multipliers(p, set)
		wantList(t, fmt.Sprintf("Multipliers of Paley of %d", p), m, e, set, api.OK)
	}
}

// TestPrimeMultipliesSinger: the Prime leaves each trace that is 0, and so the set, where it is.
func TestPrimeMultipliesSinger(t *testing.T) {
	for _, f := range fields(3) {
		v, set, e := differ.Singer(f)
		if e != api.OK {
			continue
		}
		if got := turned(ring{v, set}, f.Prime, 0).set; !slices.Equal(got, set) {
			t.Errorf("Singer of %v times its Prime: got %v, want %v", f, got, set)
		}
		root, _ := field.Root(f)
		for i := range v {
			x, _ := field.Pow(f, root, i+v)
			trace, _ := field.Trace(f, x)
			if slices.Contains(set, i) != (trace == 0) {
				t.Errorf("Singer of %v: got %v, but %d and v are otherwise", f, set, i)
			}
		}
	}
}
