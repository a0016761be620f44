package differ_test

import (
	"fmt"
	"math"
	"testing"

	"parterre/api"
	"parterre/differ"
	"parterre/field"
)

// TestPaley has D3's first: all that may be asked, and what lies beside it.
func TestPaley(t *testing.T) {
	for p := -10; p <= 130; p++ {
		got, e := differ.Paley(p)
		call := fmt.Sprintf("Paley of %d", p)
		switch {
		case p < 1 || p > 60:
			wantList(t, call, got, e, nil, api.ErrRange)
		case p%4 != 3 || !prime(p):
			wantList(t, call, got, e, nil, api.ErrNone)
		default:
			want := listOf(p, func(x int) bool {
				return x > 0 && len(listOf(p, func(y int) bool { return y*y%p == x })) > 0
			})
			wantList(t, call, got, e, want, api.OK)
		}
	}
	for _, p := range []int{math.MinInt, math.MaxInt, 1<<32 + 7, 1<<32 + 11, -1 << 32} {
		got, e := differ.Paley(p)
		wantList(t, fmt.Sprintf("Paley of %d", p), got, e, nil, api.ErrRange)
	}
}

// TestPaleyByHand has D3's first: the least, one more, what is no such prime, and the greatest.
func TestPaleyByHand(t *testing.T) {
	for _, c := range []struct {
		p     int
		want  []int
		wantE api.Errno
	}{
		{1, nil, api.ErrNone},
		{2, nil, api.ErrNone},
		{3, []int{1}, api.OK},
		{5, nil, api.ErrNone},
		{7, []int{1, 2, 4}, api.OK},
		{13, nil, api.ErrNone},
		{15, nil, api.ErrNone},
		{19, []int{1, 4, 5, 6, 7, 9, 11, 16, 17}, api.OK},
		{27, nil, api.ErrNone},
		{60, nil, api.ErrNone},
		{61, nil, api.ErrRange},
		{67, nil, api.ErrRange},
	} {
		got, e := differ.Paley(c.p)
		wantList(t, fmt.Sprintf("Paley of %d", c.p), got, e, c.want, c.wantE)
	}
	got, e := differ.Paley(59)
	if len(got) != 29 || e != api.OK {
		t.Errorf("Paley of 59: got %v, error %d", got, e)
	}
}

// fields gives each field of each order whose prime is at most most.
func fields(most int) []api.Field {
	var out []api.Field
	for p := 2; p <= most; p++ {
		for k := 1; prime(p) && power(p, k) <= 64; k++ {
			for n := range power(p, k) {
				f := api.Field{Prime: p, Degree: k, Low: digits(n, p, k)}
				if field.Check(f) == api.OK {
					out = append(out, f)
				}
			}
		}
	}
	return out
}

// TestSinger has D3's second: each field there is.
func TestSinger(t *testing.T) {
	some := 0
	for _, f := range fields(64) {
		v, set, e := differ.Singer(f)
		call := fmt.Sprintf("Singer of %v", f)
		if f.Degree < 3 {
			wantNumber(t, call, v, e, 0, api.ErrNone)
			wantList(t, call, set, e, nil, api.ErrNone)
			continue
		}
		if f.Degree == 6 {
			wantNumber(t, call, v, e, 0, api.ErrFull)
			wantList(t, call, set, e, nil, api.ErrFull)
			continue
		}
		some++
		want := singer(f)
		wantNumber(t, call, v, e, want.v, api.OK)
		wantList(t, call, set, e, want.set, api.OK)
	}
	if some != 2+3+6+8 {
		t.Errorf("%d fields have a set", some)
	}
}

// TestSingerByHand has D3's second: each order by its least field, and one whose root is not x.
func TestSingerByHand(t *testing.T) {
	for _, c := range []struct {
		f    api.Field
		v    int
		want []int
	}{
		{api.Field{Prime: 2, Degree: 3, Low: []int{1, 1, 0}}, 7, []int{1, 2, 4}},
		{api.Field{Prime: 2, Degree: 3, Low: []int{1, 0, 1}}, 7, []int{3, 5, 6}},
		{api.Field{Prime: 2, Degree: 4, Low: []int{1, 1, 0, 0}}, 15, []int{0, 1, 2, 4, 5, 8, 10}},
		{api.Field{Prime: 2, Degree: 4, Low: []int{1, 1, 1, 1}}, 15, []int{0, 5, 7, 10, 11, 13, 14}}, // the root is x + 1
		{api.Field{Prime: 2, Degree: 5, Low: []int{1, 0, 1, 0, 0}}, 31, []int{1, 2, 4, 7, 8, 14, 15, 16, 19, 23, 25, 27, 28, 29, 30}},
		{api.Field{Prime: 3, Degree: 3, Low: []int{1, 2, 0}}, 13, []int{0, 1, 3, 9}},
	} {
		v, set, e := differ.Singer(c.f)
		call := fmt.Sprintf("Singer of %v", c.f)
		wantNumber(t, call, v, e, c.v, api.OK)
		wantList(t, call, set, e, c.want, api.OK)
	}
}

// TestSingerOfWrongOnes has D3's second: what the field's Check says comes first, ahead of a Degree below 3 and of a v that is too great.
func TestSingerOfWrongOnes(t *testing.T) {
	for _, c := range []struct {
		f    api.Field
		want api.Errno
	}{
		{api.Field{}, api.ErrRange},
		{api.Field{Prime: 4, Degree: 3, Low: []int{1, 1, 0}}, api.ErrRange},
		{api.Field{Prime: 4, Degree: 1, Low: []int{0}}, api.ErrRange},
		{api.Field{Prime: 2, Degree: 0}, api.ErrRange},
		{api.Field{Prime: 2, Degree: -3}, api.ErrRange},
		{api.Field{Prime: 2, Degree: 7, Low: []int{1, 1, 0, 0, 0, 0, 0}}, api.ErrRange},
		{api.Field{Prime: 3, Degree: 4, Low: []int{2, 1, 0, 0}}, api.ErrRange},
		{api.Field{Prime: 5, Degree: 3, Low: []int{2, 3, 0}}, api.ErrRange},
		{api.Field{Prime: math.MaxInt, Degree: math.MaxInt}, api.ErrRange},
		{api.Field{Prime: 2, Degree: 3, Low: []int{1, 2, 0}}, api.ErrRange},
		{api.Field{Prime: 2, Degree: 1, Low: []int{2}}, api.ErrRange},
		{api.Field{Prime: 2, Degree: 6, Low: []int{1, 1, 0, 0, 0, -1}}, api.ErrRange},
		{api.Field{Prime: 2, Degree: 1}, api.ErrShape},
		{api.Field{Prime: 2, Degree: 3, Low: []int{1, 1}}, api.ErrShape},
		{api.Field{Prime: 2, Degree: 3, Low: []int{1, 1, 0, 1}}, api.ErrShape},
		{api.Field{Prime: 2, Degree: 6, Low: []int{1, 1}}, api.ErrShape},
		{api.Field{Prime: 2, Degree: 3, Low: []int{1, 1, 1}}, api.ErrNone},
		{api.Field{Prime: 2, Degree: 6, Low: []int{0, 1, 0, 0, 0, 0}}, api.ErrNone},
		{api.Field{Prime: 2, Degree: 1, Low: []int{1}}, api.ErrNone},
		{api.Field{Prime: 7, Degree: 2, Low: []int{1, 0}}, api.ErrNone},
		{api.Field{Prime: 61, Degree: 1, Low: []int{0}}, api.ErrNone},
		{api.Field{Prime: 2, Degree: 6, Low: []int{1, 1, 0, 0, 0, 0}}, api.ErrFull},
	} {
		v, set, e := differ.Singer(c.f)
		call := fmt.Sprintf("Singer of %v", c.f)
		wantNumber(t, call, v, e, 0, c.want)
		wantList(t, call, set, e, nil, c.want)
	}
}
