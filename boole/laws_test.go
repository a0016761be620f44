package boole_test

import (
	"slices"
	"testing"

	"parterre/api"
	"parterre/boole"
)

// asks gives what a face answers to a function with which nothing is wrong.
func asks[T any](t *testing.T, ask func([]int) (T, api.Errno)) func([]int) T {
	return func(f []int) T {
		got, e := ask(f)
		if e != api.OK {
			t.Fatalf("of %v: error %d", f, e)
		}
		return got
	}
}

// TestLawOfAnf has B4: Anf of Anf is the function.
func TestLawOfAnf(t *testing.T) {
	anf := asks(t, boole.Anf)
	for f := range all {
		wantList(t, "Anf of Anf", f, anf(anf(f)), api.OK, f, api.OK)
	}
}

// TestLawOfSquares has B4 (Parseval).
func TestLawOfSquares(t *testing.T) {
	spectrum := asks(t, boole.Spectrum)
	for f := range all {
		sum := 0
		for _, x := range spectrum(f) {
			sum += x * x
		}
		if sum != len(f)*len(f) {
			t.Errorf("Spectrum of %v: the squares are %d together", f, sum)
		}
	}
}

// TestLawOfImmune has B4 (Siegenthaler): what both are at most, and that this is reached.
func TestLawOfImmune(t *testing.T) {
	degree, immune := asks(t, boole.Degree), asks(t, boole.Immune)
	reached := map[int]bool{}
	for f := range all {
		n, both := widthOf(f), degree(f)+immune(f)
		if both > n {
			t.Errorf("of %v: Degree and Immune are together %d", f, both)
		}
		reached[n] = reached[n] || both == n
	}
	for n := range 9 {
		if !reached[n] {
			t.Errorf("%d bits: no function has all that it may have", n)
		}
	}
}

// TestLawOfBent has B4 (Rothaus), and that a bent function is as far from sums of bits as any can be.
func TestLawOfBent(t *testing.T) {
	bent, degree, far := asks(t, boole.Bent), asks(t, boole.Degree), asks(t, boole.Far)
	for f := range all {
		n := widthOf(f)
		if n%2 == 0 && far(f) > (len(f)-1<<(n/2))/2 {
			t.Errorf("Far of %v: got %d", f, far(f))
		}
		if bent(f) != (n%2 == 0 && far(f) == (len(f)-1<<(n/2))/2) {
			t.Errorf("Bent of %v: got %t, and Far is %d", f, bent(f), far(f))
		}
		if bent(f) && (n%2 == 1 || n > 2 && degree(f) > n/2) {
			t.Errorf("Bent of %v: it has %d bits and the Degree %d", f, n, degree(f))
		}
	}
}

// TestLawOfBack has B3, and what the whole asks: Back of Spectrum is the function, and Spectrum of Back is the list wherever there is one.
func TestLawOfBack(t *testing.T) {
	spectrum, back := asks(t, boole.Spectrum), asks(t, boole.Back)
	for f := range all {
		wantList(t, "Back of Spectrum", f, back(spectrum(f)), api.OK, f, api.OK)
	}
	found := 0
	for list := range lists(8, -6, -2, 2, 6) {
		if f, e := boole.Back(list); e == api.OK {
			wantList(t, "Spectrum of Back", list, spectrum(f), api.OK, list, api.OK)
			found++
		}
	}
	if found != 128 { // just those that are 1 at an odd number of x
		t.Errorf("%d have a function, want 128", found)
	}
}

// TestLawOfAddedBits follows from B2 and B3: with a sum of bits added, and 1, the spectrum's numbers change places, or their sign; what is told by their sizes alone stays.
func TestLawOfAddedBits(t *testing.T) {
	spectrum, far, bent := asks(t, boole.Spectrum), asks(t, boole.Far), asks(t, boole.Bent)
	for start, f := range some() {
		n, next := widthOf(f), numbers(start)
		for one := range 2 {
			a := next(1 << n)
			other := table(n, func(x int) int { return f[x] + common(a, x) + one })
			got := spectrum(other)
			want := slices.Clone(got)
			for b, x := range spectrum(f) {
				want[a^b] = x - 2*one*x
			}
			wantList(t, "Spectrum", other, got, api.OK, want, api.OK)
			wantNumber(t, "Far", other, far(other), api.OK, far(f), api.OK)
			wantTruth(t, "Bent", other, bent(other), api.OK, bent(f), api.OK)
		}
	}
}

// TestLawOfDegree follows from B2: a function has all bits in a product just if it is 1 at an odd number of x.
func TestLawOfDegree(t *testing.T) {
	degree := asks(t, boole.Degree)
	for f := range all {
		sum := 0
		for _, x := range f {
			sum += x
		}
		if n := widthOf(f); n > 0 && (degree(f) == n) != (sum%2 == 1) {
			t.Errorf("Degree of %v: got %d", f, degree(f))
		}
	}
}
