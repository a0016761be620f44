package array_test

import (
	"fmt"
	"math"
	"slices"
	"testing"

	"parterre/api"
	"parterre/array"
	"parterre/field"
	"parterre/space"
)

func orderOf(f api.Field) int { return power(f.Prime, f.Degree) }

// numberField is one of a prime: whatever Low has, the elements are the numbers modulo the prime.
func numberField(p, low int) api.Field {
	return api.Field{Prime: p, Degree: 1, Low: []int{low}}
}

// four is the only field of 4 elements: x x + x + 1 is 0.
func four() api.Field {
	return api.Field{Prime: 2, Degree: 2, Low: []int{1, 1}}
}

// fields gives each field of degree 2 or more, and of degree 1 the first and the last one.
func fields() []api.Field {
	var out []api.Field
	for p := 2; p <= 64; p++ {
		if field.Check(numberField(p, 0)) != api.OK {
			continue
		}
		out = append(out, numberField(p, 0), numberField(p, p-1))
		for k := 2; power(p, k) <= 64; k++ {
			for _, low := range lists(p, k) {
				if f := (api.Field{Prime: p, Degree: k, Low: low}); field.Check(f) == api.OK {
					out = append(out, f)
				}
			}
		}
	}
	return out
}

// hall is a field, with its sums and products as tables, and how many elements a row has.
type hall struct {
	f            api.Field
	q, n         int
	sum, product [][]int
	rows         [][]int // all there are, in order
}

func hallOf(f api.Field, n int) hall {
	h := hall{f: f, q: orderOf(f), n: n, rows: lists(orderOf(f), n)}
	for a := range h.q {
		var sums, products []int
		for b := range h.q {
			sum, _ := field.Add(f, a, b)
			product, _ := field.Mul(f, a, b)
			sums, products = append(sums, sum), append(products, product)
		}
		h.sum, h.product = append(h.sum, sums), append(h.product, products)
	}
	return h
}

// halls has each field with each number of elements that chapter 13 takes.
func halls() []hall {
	var out []hall
	for _, f := range fields() {
		for n := 1; n <= 6 && power(orderOf(f), n) <= 4096; n++ {
			out = append(out, hallOf(f, n))
		}
	}
	return out
}

// place is where a row stands among all.
func (h hall) place(row []int) int {
	out := 0
	for _, x := range row {
		out = out*h.q + x
	}
	return out
}

// plus adds a row, times an element, to another one.
func (h hall) plus(v []int, a int, w []int) []int {
	out := make([]int, h.n)
	for i := range out {
		out[i] = h.sum[v[i]][h.product[a][w[i]]]
	}
	return out
}

// spaceOf has all rows, in order, that can be made of some by adding and by multiplying.
func (h hall) spaceOf(rows [][]int) [][]int {
	in := make([]bool, len(h.rows))
	in[0] = true
	made := [][]int{make([]int, h.n)}
	for _, row := range rows {
		if in[h.place(row)] {
			continue
		}
		for _, v := range slices.Clone(made) {
			for a := 1; a < h.q; a++ {
				w := h.plus(v, a, row)
				in[h.place(w)] = true
				made = append(made, w)
			}
		}
	}
	var out [][]int
	for i, row := range h.rows {
		if in[i] {
			out = append(out, row)
		}
	}
	return out
}

// linearOf goes by the words of A3.
func (h hall) linearOf(rows [][]int) ([][]int, api.Errno) {
	out := h.spaceOf(rows)
	if len(out) > 128 {
		return nil, api.ErrFull
	}
	return out, api.OK
}

// strewn gives some rows that few rows make, so that often not all rows are there.
func (h hall) strewn(many int, next func(int) int) [][]int {
	var few, out [][]int
	for range next(h.n + 1) {
		few = append(few, h.rows[next(len(h.rows))])
	}
	for range many {
		row := make([]int, h.n)
		for _, v := range few {
			row = h.plus(row, next(h.q), v)
		}
		out = append(out, row)
	}
	return out
}

func (h hall) wantLinear(t *testing.T, rows [][]int) api.Errno {
	t.Helper()
	want, wantE := h.linearOf(rows)
	got, e := array.Linear(h.f, h.n, rows)
	wantRows(t, name("Linear", h.f, h.n, rows), got, e, want, wantE)
	return e
}

// TestLinear has A3: each field with each n, no rows, each row by itself where there are few, all of it, and strewn rows.
func TestLinear(t *testing.T) {
	found := map[api.Errno]int{}
	for i, h := range halls() {
		next := numbers(i)
		h.wantLinear(t, nil)
		for many := 1; many <= 12; many++ {
			found[h.wantLinear(t, h.strewn(many, next))]++
			found[h.wantLinear(t, h.strewn(many, next))]++
		}
		var whole [][]int
		for place := range h.n {
			row := make([]int, h.n)
			row[h.n-1-place] = 1 + next(h.q-1)
			whole = append(whole, row)
			found[h.wantLinear(t, whole)]++
		}
		for _, row := range h.rows[:min(len(h.rows), 30)] {
			h.wantLinear(t, [][]int{row})
		}
		for range 10 {
			h.wantLinear(t, [][]int{h.rows[next(len(h.rows))]})
		}
	}
	if found[api.OK] == 0 || found[api.ErrFull] == 0 {
		t.Errorf("not each answer: %v", found)
	}
}

// TestLinearOfAllPairs has A3: in small rooms, each two rows.
func TestLinearOfAllPairs(t *testing.T) {
	for _, h := range []hall{hallOf(numberField(2, 0), 3), hallOf(numberField(2, 1), 4), hallOf(numberField(3, 1), 2), hallOf(numberField(3, 0), 3), hallOf(four(), 2), hallOf(four(), 3), hallOf(numberField(5, 2), 2)} {
		for _, a := range h.rows {
			for _, b := range h.rows {
				h.wantLinear(t, [][]int{a, b})
			}
		}
	}
}

// TestLinearByHand has A3: no field is asked.
func TestLinearByHand(t *testing.T) {
	two, three := numberField(2, 0), numberField(3, 0)
	got, e := array.Linear(two, 3, texts("110", "011"))
	wantRows(t, "Linear of 110 011", got, e, texts("000", "011", "101", "110"), api.OK)
	got, e = array.Linear(two, 4, nil)
	wantRows(t, "Linear of none", got, e, texts("0000"), api.OK)
	got, e = array.Linear(two, 2, texts("00", "00"))
	wantRows(t, "Linear of 00 00", got, e, texts("00"), api.OK)
	got, e = array.Linear(three, 3, texts("021"))
	wantRows(t, "Linear of 021", got, e, texts("000", "012", "021"), api.OK)
	got, e = array.Linear(three, 4, texts("2021", "0222", "1120"))
	wantRows(t, "Linear of 2021 0222 1120", got, e, texts("0000", "0111", "0222", "1012", "1120", "1201", "2021", "2102", "2210"), api.OK)
	got, e = array.Linear(four(), 2, texts("32"))
	wantRows(t, "Linear of 32", got, e, texts("00", "13", "21", "32"), api.OK) // 3 times 2 is 1, 2 times 2 is 3
}

// TestLinearOfTooMany has A3: the greatest space of each order that may be, and one more row.
func TestLinearOfTooMany(t *testing.T) {
	greatest := map[int]int{2: 6, 3: 4, 4: 3, 5: 3, 7: 2, 8: 2, 9: 2, 11: 2}
	for _, h := range halls() {
		want, few := greatest[h.q]
		if !few {
			want = 1
		}
		var rows [][]int
		for place := range h.n {
			row := make([]int, h.n)
			row[place] = h.q - 1
			rows = append(rows, row)
			got, e := array.Linear(h.f, h.n, append(rows, rows...))
			if len(rows) > want {
				wantRows(t, name("Linear", h.f, h.n, rows), got, e, nil, api.ErrFull)
			} else if e != api.OK || len(got) != power(h.q, len(rows)) {
				t.Errorf("%s: %d runs, error %d", name("Linear", h.f, h.n, rows), len(got), e)
			}
		}
	}
}

// brokenFields have each error of chapter 1.
func brokenFields() []api.Field {
	return []api.Field{
		{},
		{Prime: 4, Degree: 1, Low: []int{0}},
		{Prime: 1, Degree: 1, Low: []int{0}},
		{Prime: -5, Degree: 1, Low: []int{0}},
		{Prime: 5, Degree: 0},
		{Prime: 5, Degree: -1},
		{Prime: 67, Degree: 1, Low: []int{0}},
		{Prime: 5, Degree: 3, Low: []int{1, 1, 0}},
		{Prime: 3, Degree: math.MaxInt},
		{Prime: math.MaxInt, Degree: 1, Low: []int{0}},
		{Prime: math.MinInt, Degree: math.MinInt},
		{Prime: 5, Degree: 1},
		{Prime: 5, Degree: 1, Low: []int{0, 0}},
		{Prime: 3, Degree: 2, Low: []int{2}},
		{Prime: 5, Degree: 1, Low: []int{5}},
		{Prime: 5, Degree: 1, Low: []int{-1}},
		{Prime: 3, Degree: 2, Low: []int{1, 3}},
		{Prime: 3, Degree: 2, Low: []int{2, 0}},
		{Prime: 2, Degree: 2, Low: []int{1, 0}},
		{Prime: 2, Degree: 6, Low: []int{0, 0, 0, 0, 0, 0}},
	}
}

// wrongRows has lists of rows of three elements, each wrong for a field of 4.
func wrongRows() [][][]int {
	return [][][]int{
		make([][]int, 13), repeated(texts("123"), 13), append(repeated(texts("123"), 12), nil), append(texts("9", "999"), make([][]int, 11)...),
		{nil}, {{}}, texts("12"), texts("1230"), texts("99"), texts("123", "12"), texts("123", "12", "999"), make([][]int, 12),
		texts("124"), texts("400"), {{0, -1, 0}}, {{math.MaxInt, 0, 0}}, {{0, 0, math.MinInt}}, {{0, 1 << 32, 0}}, texts("123", "129"), texts("129", "12"), append(repeated(texts("123"), 11), []int{4, 4, 4}),
	}
}

// TestLinearOfWrong has A3: chapter 13's errors, which come ahead of ErrFull, and nothing beside them.
func TestLinearOfWrong(t *testing.T) {
	found := map[api.Errno]int{}
	ask := func(f api.Field, n int, rows [][]int) {
		t.Helper()
		_, want := space.Basis(f, n, rows)
		if want == api.OK {
			t.Fatalf("nothing is wrong with %v, n %d, %v", f, n, rows)
		}
		found[want]++
		got, e := array.Linear(f, n, rows)
		wantRows(t, name("Linear", f, n, rows), got, e, nil, want)
	}
	for _, f := range brokenFields() {
		for _, n := range []int{1, 2, 3, 0, 7, -1, math.MinInt, math.MaxInt} {
			ask(f, n, nil)
			ask(f, n, texts("100", "010", "001"))
			ask(f, n, make([][]int, 13))
		}
	}
	for _, rows := range append(wrongRows(), nil, texts("100", "010", "001")) {
		for _, n := range []int{0, -1, 7, 8, math.MinInt, math.MaxInt, 1<<32 + 3} {
			ask(four(), n, rows)
		}
		ask(numberField(61, 0), 3, rows)
		ask(numberField(5, 0), 6, rows)
	}
	for _, rows := range wrongRows() {
		ask(four(), 3, rows)
	}
	for _, row := range []string{"00004", "0000", "000000"} {
		ask(four(), 5, append(texts("10000", "01000", "00100", "00010", "00001"), texts(row)...)) // there would be too many runs
	}
	for _, e := range []api.Errno{api.ErrRange, api.ErrShape, api.ErrFull, api.ErrNone} {
		if found[e] == 0 {
			t.Errorf("no error %d", e)
		}
	}
}

// TestLinearOfElements has A3: of each field the numbers about the bounds.
func TestLinearOfElements(t *testing.T) {
	for _, f := range fields() {
		q := orderOf(f)
		for _, x := range []int{-1, q, q + 1} {
			got, e := array.Linear(f, 1, [][]int{{x}})
			wantRows(t, fmt.Sprint("Linear of ", f, x), got, e, nil, api.ErrRange)
		}
		got, e := array.Linear(f, 1, [][]int{{q - 1}})
		wantRows(t, fmt.Sprint("Linear of ", f, q-1), got, e, lists(q, 1), api.OK)
	}
}
