package space_test

import (
	"fmt"
	"slices"
	"testing"

	"parterre/api"
	"parterre/space"
)

// manyHalls have few enough spaces to go through each one.
func manyHalls() []hall {
	out := smallHalls()
	for _, s := range []struct {
		f api.Field
		n int
	}{{numberField(2, 1), 5}, {numberField(2, 0), 6}, {numberField(3, 0), 4}, {four(), 4}, {numberField(5, 0), 3}, {numberField(11, 0), 2}, {numberField(61, 0), 2}} {
		out = append(out, hallOf(s.f, s.n))
	}
	for _, f := range fields() {
		if f.Degree > 1 && orderOf(f) > 4 {
			out = append(out, hallOf(f, 2))
		}
		if q := orderOf(f); q == 8 || q == 9 {
			out = append(out, hallOf(f, 3))
		}
	}
	return out
}

// basis, join, meet and normal are the faces where nothing may be wrong.
func (h hall) basis(t *testing.T, rows [][]int) [][]int {
	t.Helper()
	out, e := space.Basis(h.f, h.n, rows)
	return told(t, out, e)
}

func (h hall) join(t *testing.T, a, b [][]int) [][]int {
	t.Helper()
	out, e := space.Join(h.f, h.n, a, b)
	return told(t, out, e)
}

func (h hall) meet(t *testing.T, a, b [][]int) [][]int {
	t.Helper()
	out, e := space.Meet(h.f, h.n, a, b)
	return told(t, out, e)
}

func (h hall) normal(t *testing.T, rows [][]int) [][]int {
	t.Helper()
	out, e := space.Normal(h.f, h.n, rows)
	return told(t, out, e)
}

func told(t *testing.T, out [][]int, e api.Errno) [][]int {
	t.Helper()
	if e != api.OK {
		t.Fatalf("error %d", e)
	}
	return out
}

// TestBasesAreCounted has S4: Gauss tells how many bases there are, and each is the basis of its own space.
func TestBasesAreCounted(t *testing.T) {
	for _, h := range manyHalls() {
		for k := range h.n + 1 {
			bases := h.bases(k)
			want, e := space.Gauss(h.n, k, h.q)
			wantNumber(t, name("bases", h, k), len(bases), e, want, api.OK)
			for _, b := range bases {
				if got := h.basis(t, b); !sameRows(got, b) {
					t.Errorf("%s: Basis of %v: got %v", h, b, got)
				}
			}
		}
	}
}

// TestThereIsOneBasis has S2's remark: no two have one space.
func TestThereIsOneBasis(t *testing.T) {
	for _, h := range smallHalls() {
		seen := map[string][][]int{}
		for _, b := range h.allBases() {
			text := fmt.Sprint(h.spaceOf(b))
			if other, twice := seen[text]; twice {
				t.Errorf("%s: %v and %v have one space", h, b, other)
			}
			seen[text] = b
		}
	}
}

// TestNormalOfNormal has S4: it is the basis, and the rows of both are together n.
func TestNormalOfNormal(t *testing.T) {
	for start, h := range manyHalls() {
		next := numbers(start)
		for _, b := range h.allBases() {
			normal := h.normal(t, b)
			if len(normal)+len(b) != h.n {
				t.Errorf("%s: %v: its normal is %v", h, b, normal)
			}
			if got := h.normal(t, normal); !sameRows(got, b) {
				t.Errorf("%s: %v: the normal of its normal is %v", h, b, got)
			}
		}
		for range 20 {
			rows := h.strewn(next(13), next)
			if got := h.normal(t, h.normal(t, rows)); !sameRows(got, h.basis(t, rows)) {
				t.Errorf("%s: %v: the normal of its normal is %v", h, rows, got)
			}
		}
	}
}

// TestGrassmann has S4's first: rows of Join and of Meet are together those of both.
func TestGrassmann(t *testing.T) {
	for start, h := range halls() {
		next := numbers(1000 + start)
		for range 6 {
			a, b := h.strewn(next(13), next), h.strewn(next(13), next)
			join, meet := h.join(t, a, b), h.meet(t, a, b)
			if len(join)+len(meet) != len(h.basis(t, a))+len(h.basis(t, b)) {
				t.Errorf("%s: %v and %v: Join %v, Meet %v", h, a, b, join, meet)
			}
		}
	}
}

// TestJoinAndMeet: the order of two is not minded; what is normal to the one is what the other makes of normals; a space with its own is itself.
func TestJoinAndMeet(t *testing.T) {
	for start, h := range halls() {
		next := numbers(2000 + start)
		a, b := h.strewn(next(13), next), h.strewn(next(13), next)
		join, meet := h.join(t, a, b), h.meet(t, a, b)
		for i, two := range [][2][][]int{
			{join, h.join(t, b, a)}, {meet, h.meet(t, b, a)},
			{h.normal(t, join), h.meet(t, h.normal(t, a), h.normal(t, b))},
			{h.normal(t, meet), h.join(t, h.normal(t, a), h.normal(t, b))},
			{h.join(t, a, a), h.basis(t, a)}, {h.meet(t, a, a), h.basis(t, a)},
			{h.join(t, a, meet), h.basis(t, a)}, {h.meet(t, a, join), h.basis(t, a)},
		} {
			if !sameRows(two[0], two[1]) {
				t.Errorf("%s: %v and %v: law %d: %v and %v", h, a, b, i, two[0], two[1])
			}
		}
	}
}

// TestOrderOfRows: whatever the order in which rows stand, their space is one.
func TestOrderOfRows(t *testing.T) {
	for start, h := range halls() {
		next := numbers(3000 + start)
		rows := h.strewn(1+next(12), next)
		want, normal := h.basis(t, rows), h.normal(t, rows)
		slices.Reverse(rows)
		if got := h.basis(t, rows); !sameRows(got, want) {
			t.Errorf("%s: %v: got %v, want %v", h, rows, got, want)
		}
		i := next(len(rows))
		rows[0], rows[i] = rows[i], rows[0]
		if got := h.normal(t, rows); !sameRows(got, normal) {
			t.Errorf("%s: %v: got %v, want %v", h, rows, got, normal)
		}
	}
}

// TestLawsOfGauss has S4's last: as many of k as of n - k, and how they are made of those of n - 1.
func TestLawsOfGauss(t *testing.T) {
	gauss := func(n, k, q int) int {
		x, e := space.Gauss(n, k, q)
		if e != api.OK {
			t.Fatalf("Gauss of %d, %d, %d: error %d", n, k, q, e)
		}
		return x
	}
	for q := 2; q <= 64; q++ {
		for n := range 31 {
			for k := range n + 1 {
				x, e := space.Gauss(n, k, q)
				y, e1 := space.Gauss(n, n-k, q)
				if x != y || e != e1 {
					t.Errorf("Gauss of %d, %d, %d: got %d, and of what is left %d", n, k, q, x, y)
				}
				if e == api.OK && k > 0 && k < n && x != power(q, k)*gauss(n-1, k, q)+gauss(n-1, k-1, q) {
					t.Errorf("Gauss of %d, %d, %d: got %d", n, k, q, x)
				}
			}
		}
	}
}
