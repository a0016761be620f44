package boole_test

import (
	"testing"

	"parterre/api"
	"parterre/boole"
)

// TestAnf has B2: all functions of at most 4 bits, and great ones.
func TestAnf(t *testing.T) {
	for f := range all {
		got, e := boole.Anf(f)
		wantList(t, "Anf", f, got, e, sumOf(f), api.OK)
	}
}

// TestAnfIsTheFunction has B2: what the sum is at each x.
func TestAnfIsTheFunction(t *testing.T) {
	for _, f := range some() {
		sum, e := boole.Anf(f)
		if len(sum) != len(f) {
			t.Fatalf("%s: got %v", name("Anf", f), sum)
		}
		got := table(widthOf(f), func(x int) int { return valueOf(sum, x) })
		wantList(t, "the sum of Anf", f, got, e, f, api.OK)
	}
}

// TestAnfByHand has B2: 1 alone, bits alone, and the bits 0 and 2 with the product of 1 and 2.
func TestAnfByHand(t *testing.T) {
	for _, c := range [][2][]int{
		{{0}, {0}},
		{{1}, {1}},
		{{0, 1}, {0, 1}},
		{{1, 0}, {1, 1}},
		{{1, 1}, {1, 0}},
		{{0, 0, 1, 1}, {0, 0, 1, 0}},
		{{0, 1, 1, 1}, {0, 1, 1, 1}},
		{{1, 0, 0, 0}, {1, 1, 1, 1}},
		{{0, 1, 0, 1, 1, 0, 0, 1}, {0, 1, 0, 0, 1, 0, 1, 0}},
	} {
		got, e := boole.Anf(c[0])
		wantList(t, "Anf", c[0], got, e, c[1], api.OK)
	}
}

// TestDegree has B2: all functions of at most 4 bits, and great ones; each degree is there.
func TestDegree(t *testing.T) {
	seen := map[[2]int]bool{}
	for f := range all {
		got, e := boole.Degree(f)
		wantNumber(t, "Degree", f, got, e, degreeOf(f), api.OK)
		seen[[2]int{widthOf(f), got}] = true
	}
	for n := range 5 {
		for degree := range n + 1 {
			if !seen[[2]int{n, degree}] {
				t.Errorf("no function of %d bits has the degree %d", n, degree)
			}
		}
	}
}

// TestDegreeByHand has B2: of no product it is 0, and so of 1 alone; a single x has all bits in a product; of products the one of most bits tells, not the last.
func TestDegreeByHand(t *testing.T) {
	for n := range 9 {
		for place := range 1 << n {
			f := single(n, place)
			got, e := boole.Degree(f)
			wantNumber(t, "Degree", f, got, e, n, api.OK)
		}
		for x := range 2 {
			got, e := boole.Degree(table(n, func(int) int { return x }))
			wantNumber(t, "Degree of the same everywhere", []int{n, x}, got, e, 0, api.OK)
		}
	}
	got, e := boole.Degree(table(4, func(x int) int { return x>>3 + x*(x>>1)*(x>>2) }))
	wantNumber(t, "Degree", "a bit and a product of three", got, e, 3, api.OK)
}

// TestSpectrum has B2: all functions of at most 4 bits, and great ones.
func TestSpectrum(t *testing.T) {
	for f := range all {
		got, e := boole.Spectrum(f)
		wantList(t, "Spectrum", f, got, e, spectrumOf(f), api.OK)
	}
}

// TestSpectrumByHand has B2: no bits; one bit; and a sum of bits, which is the same everywhere as itself and half as often as any other.
func TestSpectrumByHand(t *testing.T) {
	for _, c := range [][2][]int{
		{{0}, {1}},
		{{1}, {-1}},
		{{0, 0}, {2, 0}},
		{{0, 1}, {0, 2}},
		{{1, 0}, {0, -2}},
		{{1, 1}, {-2, 0}},
		{{0, 0, 1, 0}, {2, -2, 2, 2}},
		{{0, 0, 0, 0, 0, 0, 0, 1}, {6, 2, 2, -2, 2, -2, -2, 2}},
	} {
		got, e := boole.Spectrum(c[0])
		wantList(t, "Spectrum", c[0], got, e, c[1], api.OK)
	}
	for n := range 9 {
		for a := range 1 << n {
			f := table(n, func(x int) int { return common(a, x) })
			got, e := boole.Spectrum(f)
			wantList(t, "Spectrum", f, got, e, instead(make([]int, 1<<n), a, 1<<n), api.OK)
			f = table(n, func(x int) int { return common(a, x) + 1 })
			got, e = boole.Spectrum(f)
			wantList(t, "Spectrum", f, got, e, instead(make([]int, 1<<n), a, -1<<n), api.OK)
		}
	}
}
