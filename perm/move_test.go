package perm_test

import (
	"fmt"
	"slices"
	"testing"

	"parterre/api"
	"parterre/perm"
)

// TestCompose has M2: first a, then b.
func TestCompose(t *testing.T) {
	got, e := perm.Compose([]int{1, 0, 2}, []int{0, 2, 1})
	wantList(t, "Compose", got, e, []int{2, 0, 1})
	for n := range 5 {
		for _, a := range all(n) {
			for _, b := range all(n) {
				got, e := perm.Compose(a, b)
				wantList(t, fmt.Sprint("Compose ", a, b), got, e, then(a, b))
			}
		}
	}
	for start := range 100 {
		a, b := mixed(12, start), mixed(12, 1000+start)
		got, e := perm.Compose(a, b)
		wantList(t, fmt.Sprint("Compose ", a, b), got, e, then(a, b))
	}
}

// TestInverse has M2: what undoes a permutation, ahead of it and behind it.
func TestInverse(t *testing.T) {
	got, e := perm.Inverse([]int{1, 2, 0})
	wantList(t, "Inverse", got, e, []int{2, 0, 1})
	for _, a := range some() {
		got, e := perm.Inverse(a)
		wantList(t, fmt.Sprint("Inverse ", a), got, e, undone(a))
		if e == api.OK {
			wantList(t, fmt.Sprint("undone ", a), then(a, got), e, stay(len(a)))
			wantList(t, fmt.Sprint("undone ahead ", a), then(got, a), e, stay(len(a)))
		}
	}
}

// TestPower has M2 where going one by one is short enough.
func TestPower(t *testing.T) {
	for _, a := range upTo(5) {
		for n := -14; n <= 14; n++ {
			got, e := perm.Power(a, n)
			wantList(t, fmt.Sprintf("Power(%v, %d)", a, n), got, e, times(a, n))
		}
	}
	for start := range 20 {
		a := mixed(12, start)
		for n := -70; n <= 70; n++ {
			got, e := perm.Power(a, n)
			wantList(t, fmt.Sprintf("Power(%v, %d)", a, n), got, e, times(a, n))
		}
	}
}

// TestPowerFar has M2 at the bounds of how often, and near them.
func TestPowerFar(t *testing.T) {
	for _, a := range some() {
		for _, n := range []int{1<<62 - 2, 1<<62 - 1, 1 << 62, 1<<61 + 5, 1 << 32, 1<<31 - 1, 1000003} {
			got, e := perm.Power(a, n)
			wantList(t, fmt.Sprintf("Power(%v, %d)", a, n), got, e, farTimes(a, n))
			got, e = perm.Power(a, -n)
			wantList(t, fmt.Sprintf("Power(%v, %d)", a, -n), got, e, farTimes(undone(a), n))
		}
	}
}

// TestOrder has M2: the first number of times that leaves all points where they are.
func TestOrder(t *testing.T) {
	for _, a := range some() {
		want := 1
		for at := a; !slices.Equal(at, stay(len(a))); want++ {
			at = then(at, a)
		}
		if got, e := perm.Order(a); got != want || e != api.OK {
			t.Errorf("Order(%v): got %d, error %d; want %d", a, got, e, want)
		}
	}
}

// TestOrderOfCycles has some orders that are known: the greatest of 12 points is 60.
func TestOrderOfCycles(t *testing.T) {
	for _, c := range []struct {
		a    []int
		want int
	}{
		{nil, 1}, {[]int{0}, 1}, {[]int{1, 0}, 2}, {[]int{1, 2, 0, 4, 3}, 6}, {[]int{1, 0, 3, 2, 5, 4}, 2},
		{[]int{1, 2, 0, 4, 5, 6, 3, 8, 9, 10, 11, 7}, 60},
		{[]int{1, 2, 3, 4, 5, 6, 7, 8, 9, 10, 11, 0}, 12},
		{[]int{1, 2, 3, 4, 5, 6, 7, 8, 9, 10, 0, 11}, 11},
		{[]int{1, 2, 3, 0, 5, 6, 7, 8, 9, 4, 11, 10}, 12},
		{stay(12), 1},
	} {
		if got, e := perm.Order(c.a); got != c.want || e != api.OK {
			t.Errorf("Order(%v): got %d, error %d; want %d", c.a, got, e, c.want)
		}
	}
}

// TestSign has M2, by exchanges that put all in order.
func TestSign(t *testing.T) {
	for _, a := range some() {
		want := 1 - 2*(exchanges(a)%2)
		if got := sign(t, a); got != want {
			t.Errorf("Sign(%v): got %d, want %d", a, got, want)
		}
	}
	if got := sign(t, nil); got != 1 {
		t.Errorf("Sign of no points: got %d", got)
	}
}

// TestGroup has M5: composing is associative, what moves nothing changes nothing, and each is undone.
func TestGroup(t *testing.T) {
	for n := range 5 {
		for _, a := range all(n) {
			wantList(t, "a, then nothing", compose(t, a, stay(n)), api.OK, a)
			wantList(t, "nothing, then a", compose(t, stay(n), a), api.OK, a)
			wantList(t, "a, then undone", compose(t, a, inverse(t, a)), api.OK, stay(n))
			wantList(t, "undone, then a", compose(t, inverse(t, a), a), api.OK, stay(n))
			for _, b := range all(n) {
				ab := compose(t, a, b)
				if e := perm.Check(ab); e != api.OK {
					t.Errorf("Compose(%v, %v) is no permutation: error %d", a, b, e)
				}
				for _, c := range all(n) {
					wantList(t, fmt.Sprint("associates ", a, b, c), compose(t, ab, c), api.OK, compose(t, a, compose(t, b, c)))
				}
			}
		}
	}
}

// TestSignOfComposed has M5: the product of the Signs.
func TestSignOfComposed(t *testing.T) {
	for _, a := range all(5) {
		for _, b := range all(5) {
			if got := sign(t, compose(t, a, b)); got != sign(t, a)*sign(t, b) {
				t.Errorf("Sign of %v, then %v: got %d", a, b, got)
			}
		}
	}
	for start := range 50 {
		a, b := mixed(12, start), mixed(12, 500+start)
		if got := sign(t, compose(t, a, b)); got != sign(t, a)*sign(t, b) {
			t.Errorf("Sign of %v, then %v: got %d", a, b, got)
		}
	}
}

// TestAlike has M4, by trying each c.
func TestAlike(t *testing.T) {
	for n := range 5 {
		for _, a := range all(n) {
			for _, b := range all(n) {
				want := slices.ContainsFunc(all(n), func(c []int) bool {
					return slices.Equal(then(then(undone(c), a), c), b)
				})
				if got := alike(t, a, b); got != want {
					t.Errorf("Alike(%v, %v): got %t", a, b, got)
				}
			}
		}
	}
}

// TestAlikeLengths has M5: alike just if the cycles have the same lengths.
func TestAlikeLengths(t *testing.T) {
	for _, a := range all(5) {
		for _, b := range all(5) {
			if got := alike(t, a, b); got != slices.Equal(lengths(a), lengths(b)) {
				t.Errorf("Alike(%v, %v): got %t", a, b, got)
			}
		}
	}
	for start := range 200 {
		a, b, c := mixed(12, start), mixed(12, 700+start), mixed(12, 1400+start)
		if !alike(t, a, then(then(undone(c), a), c)) {
			t.Errorf("%v is not alike what other names, %v, make of it", a, c)
		}
		if got := alike(t, a, b); got != slices.Equal(lengths(a), lengths(b)) {
			t.Errorf("Alike(%v, %v): got %t", a, b, got)
		}
	}
}

// TestAlikeButNot has permutations of the same Order and Sign, and of as many cycles, that are not alike.
func TestAlikeButNot(t *testing.T) {
	for _, c := range [][2][]int{
		{{1, 0, 3, 2, 4, 5, 6, 7}, {1, 0, 3, 2, 5, 4, 7, 6}},
		{{1, 2, 3, 4, 5, 0, 7, 6, 8, 9, 10, 11}, {1, 2, 3, 4, 5, 0, 7, 8, 9, 10, 11, 6}},
		{{1, 0, 3, 2, 5, 4, 7, 8, 9, 10, 11, 6}, {1, 2, 0, 4, 5, 3, 7, 8, 6, 10, 11, 9}},
	} {
		if alike(t, c[0], c[1]) {
			t.Errorf("%v and %v are alike", c[0], c[1])
		}
	}
}

// TestKind has the cycles of each length, as each point tells them.
func TestKind(t *testing.T) {
	for _, a := range some() {
		want := make([]int, len(a))
		for _, long := range lengths(a) {
			want[long-1]++
		}
		got, e := perm.Kind(a)
		wantList(t, fmt.Sprint("Kind ", a), got, e, want)
	}
}
