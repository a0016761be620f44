package boole_test

import (
	"testing"

	"parterre/api"
	"parterre/boole"
)

// TestFar has B3: all functions of at most 4 bits, and great ones.
func TestFar(t *testing.T) {
	for f := range all {
		got, e := boole.Far(f)
		wantNumber(t, "Far", f, got, e, farOf(f), api.OK)
	}
}

// TestFarByHand has B3: a sum of bits is not far from itself, be 1 added or not; with some few x otherwise it is as far as these are many.
func TestFarByHand(t *testing.T) {
	for n := range 9 {
		next := numbers(n)
		for a := range 1 << n {
			for one := range 2 {
				f := table(n, func(x int) int { return common(a, x) + one })
				got, e := boole.Far(f)
				wantNumber(t, "Far", f, got, e, 0, api.OK)
				first := next(1 << n)
				for few := range 1 + (1<<n)/8 {
					got, e = boole.Far(f)
					wantNumber(t, "Far", f, got, e, few, api.OK)
					place := (first + few) % (1 << n)
					f[place] = 1 - f[place]
				}
			}
		}
	}
	for n, far := range map[int]int{2: 1, 4: 6, 6: 28, 8: 120} {
		got, e := boole.Far(pairs(n, 1))
		wantNumber(t, "Far of a bent one", n, got, e, far, api.OK)
	}
}

// TestBent has B3: all functions of at most 4 bits, and great ones; and how many there are, as books count them.
func TestBent(t *testing.T) {
	count := map[int]int{}
	for f := range all {
		got, e := boole.Bent(f)
		wantTruth(t, "Bent", f, got, e, bentOf(f), api.OK)
		if got {
			count[widthOf(f)]++
		}
	}
	for n, many := range []int{2, 0, 8, 0, 896, 0} {
		if count[n] != many {
			t.Errorf("%d functions of %d bits are bent, want %d", count[n], n, many)
		}
	}
	if count[6] < 4 || count[7] != 0 || count[8] < 4 {
		t.Errorf("of 6, 7 and 8 bits are bent: %d, %d, %d", count[6], count[7], count[8])
	}
}

// TestBentByHand has B3: one x otherwise, and a bent function is none any more.
func TestBentByHand(t *testing.T) {
	for n := 2; n <= 8; n += 2 {
		for start := range 4 {
			f := pairs(n, start)
			got, e := boole.Bent(f)
			wantTruth(t, "Bent", f, got, e, true, api.OK)
			for place := range f {
				other := instead(f, place, 1-f[place])
				got, e = boole.Bent(other)
				wantTruth(t, "Bent", other, got, e, false, api.OK)
			}
		}
	}
}

// TestImmune has B3: all functions of at most 4 bits, and great ones; each m is there.
func TestImmune(t *testing.T) {
	seen := map[[2]int]bool{}
	for f := range all {
		got, e := boole.Immune(f)
		wantNumber(t, "Immune", f, got, e, immuneOf(f), api.OK)
		seen[[2]int{widthOf(f), got}] = true
	}
	for n := range 5 {
		for m := range n + 1 {
			if !seen[[2]int{n, m}] {
				t.Errorf("no function of %d bits is immune up to %d", n, m)
			}
		}
	}
}

// TestImmuneByHand has B3: what is the same everywhere is so up to n; a sum of k bits up to one less than k, and so a product of two bits added to it, neither of which is one of the k.
func TestImmuneByHand(t *testing.T) {
	for n := range 9 {
		for one := range 2 {
			got, e := boole.Immune(table(n, func(int) int { return one }))
			wantNumber(t, "Immune of the same everywhere", []int{n, one}, got, e, n, api.OK)
			for a := 1; a < 1<<n; a++ {
				f := table(n, func(x int) int { return common(a, x) + one })
				got, e := boole.Immune(f)
				wantNumber(t, "Immune", f, got, e, ones(a)-1, api.OK)
			}
		}
	}
	for k := 1; k <= 6; k++ {
		f := table(k+2, func(x int) int { return ones(x%(1<<k)) + x>>k*(x>>(k+1)) })
		got, e := boole.Immune(f)
		wantNumber(t, "Immune", f, got, e, k-1, api.OK)
	}
}
