package field_test

import (
	"slices"
	"testing"

	"parterre/api"
	"parterre/field"
)

// pow is Pow where nothing may be wrong.
func pow(t *testing.T, f api.Field, a, n int) int {
	t.Helper()
	x, e := field.Pow(f, a, n)
	if e != api.OK {
		t.Fatalf("%v: Pow(%d, %d): error %d", f, a, n, e)
	}
	return x
}

// trace is Trace where nothing may be wrong.
func trace(t *testing.T, f api.Field, a int) int {
	t.Helper()
	x, e := field.Trace(f, a)
	if e != api.OK {
		t.Fatalf("%v: Trace(%d): error %d", f, a, e)
	}
	return x
}

// TestFieldIsAField has F5's order, brackets and sharing out.
func TestFieldIsAField(t *testing.T) {
	for _, s := range sizes() {
		f := least(t, s.p, s.k)
		all := tablesOf(t, f)
		for a := range s.q {
			if all.sum[a][0] != a || all.product[a][1] != a || all.product[a][0] != 0 {
				t.Fatalf("%v: 0 and 1 do not leave %d", f, a)
			}
			if !slices.Contains(all.sum[a], 0) || a > 0 && !slices.Contains(all.product[a], 1) {
				t.Fatalf("%v: nothing leads back from %d", f, a)
			}
			for b := range s.q {
				if all.sum[a][b] != all.sum[b][a] || all.product[a][b] != all.product[b][a] {
					t.Fatalf("%v: order is minded of %d, %d", f, a, b)
				}
				all.lookAtThree(t, f, a, b)
			}
		}
	}
}

// lookAtThree goes through each third element.
func (all tables) lookAtThree(t *testing.T, f api.Field, a, b int) {
	t.Helper()
	for c := range all.sum {
		if all.sum[all.sum[a][b]][c] != all.sum[a][all.sum[b][c]] {
			t.Fatalf("%v: brackets are minded by the sum of %d, %d, %d", f, a, b, c)
		}
		if all.product[all.product[a][b]][c] != all.product[a][all.product[b][c]] {
			t.Fatalf("%v: brackets are minded by the product of %d, %d, %d", f, a, b, c)
		}
		if all.product[a][all.sum[b][c]] != all.sum[all.product[a][b]][all.product[a][c]] {
			t.Fatalf("%v: %d is not shared out over %d, %d", f, a, b, c)
		}
	}
}

// TestFermat has F5's power of q - 1.
func TestFermat(t *testing.T) {
	for _, f := range someFields() {
		q := orderOf(f)
		for a := 1; a < q; a++ {
			if x := pow(t, f, a, q-1); x != 1 {
				t.Fatalf("%v: %d to the power of q - 1 is %d", f, a, x)
			}
		}
	}
}

// TestFrobenius has F5's sums to the power of p, and traces.
func TestFrobenius(t *testing.T) {
	for _, s := range sizes() {
		f := least(t, s.p, s.k)
		var powers, traces []int
		for a := range s.q {
			powers = append(powers, pow(t, f, a, s.p))
			traces = append(traces, trace(t, f, a))
			if traces[a] < 0 || traces[a] >= s.p {
				t.Fatalf("%v: Trace(%d) is %d", f, a, traces[a])
			}
		}
		all := tablesOf(t, f)
		for a := range s.q {
			for b := range s.q {
				c := all.sum[a][b]
				if powers[c] != all.sum[powers[a]][powers[b]] {
					t.Fatalf("%v: the power of %d and %d together", f, a, b)
				}
				if traces[c] != all.sum[traces[a]][traces[b]] {
					t.Fatalf("%v: the trace of %d and %d together", f, a, b)
				}
			}
		}
	}
}

// TestEuler has F5's half of the elements; of an even q all are squares.
func TestEuler(t *testing.T) {
	for _, f := range someFields() {
		q := orderOf(f)
		squares, e := field.Squares(f)
		if e != api.OK {
			t.Fatalf("%v: Squares: error %d", f, e)
		}
		want := (q - 1) / 2
		if q%2 == 0 {
			want = q - 1
		}
		if len(squares) != want {
			t.Errorf("%v: %d squares, want %d", f, len(squares), want)
		}
		for a := 1; a < q && q%2 == 1; a++ {
			if slices.Contains(squares, a) != (pow(t, f, a, (q-1)/2) == 1) {
				t.Errorf("%v: is %d a square?", f, a)
			}
		}
	}
}
