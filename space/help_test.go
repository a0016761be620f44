package space_test

import (
	"fmt"
	"slices"
	"testing"

	"parterre/api"
)

// The helpers here go by the words of the document, by tables and by trying all rows, so that a fault of the package is no fault of theirs.

// upTo has the numbers below n.
func upTo(n int) []int {
	out := make([]int, n)
	for i := range out {
		out[i] = i
	}
	return out
}

// numbers gives numbers below their bound that are strewn, and the same ones each time.
func numbers(start int) func(bound int) int {
	state := uint64(start)*0x9e3779b97f4a7c15 + 12345
	return func(bound int) int {
		state = state*6364136223846793005 + 1442695040888963407
		return int(state>>33) % bound
	}
}

func power(a, n int) int {
	out := 1
	for range n {
		out *= a
	}
	return out
}

// digits gives the k lowest digits of n, the lowest first.
func digits(n, p, k int) []int {
	out := make([]int, k)
	for i := range out {
		out[i] = n % p
		n /= p
	}
	return out
}

// number is what digits leads back to.
func number(a []int, p int) int {
	n := 0
	for i := len(a) - 1; i >= 0; i-- {
		n = n*p + a[i]
	}
	return n
}

func orderOf(f api.Field) int { return power(f.Prime, f.Degree) }

// numberField is one of a prime: whatever Low has, the elements are the numbers modulo the prime.
func numberField(p, low int) api.Field {
	return api.Field{Prime: p, Degree: 1, Low: []int{low}}
}

// four is the only field of 4 elements: x x + x + 1 is 0.
func four() api.Field {
	return api.Field{Prime: 2, Degree: 2, Low: []int{1, 1}}
}

// productNumbers are those whose digits are Low of a product of two polynomials that begin with 1.
func productNumbers(p, k int) map[int]bool {
	out := map[int]bool{}
	for d := 1; 2*d <= k; d++ {
		for a := range power(p, d) {
			for b := range power(p, k-d) {
				x, y := append(digits(a, p, d), 1), append(digits(b, p, k-d), 1)
				c := make([]int, k+1)
				for i := range x {
					for j := range y {
						c[i+j] = (c[i+j] + x[i]*y[j]) % p
					}
				}
				out[number(c[:k], p)] = true
			}
		}
	}
	return out
}

// fields gives each field of degree 2 or more, and of degree 1 the first and the last one.
func fields() []api.Field {
	var out []api.Field
	for _, p := range []int{2, 3, 5, 7, 11, 13, 17, 19, 23, 29, 31, 37, 41, 43, 47, 53, 59, 61} {
		out = append(out, numberField(p, 0), numberField(p, p-1))
		for k := 2; power(p, k) <= 64; k++ {
			made := productNumbers(p, k)
			for low := range power(p, k) {
				if !made[low] {
					out = append(out, api.Field{Prime: p, Degree: k, Low: digits(low, p, k)})
				}
			}
		}
	}
	return out
}

// fits: may there be rows of n elements of a field of order q?
func fits(q, n int) bool {
	return n >= 1 && n <= 6 && power(q, n) <= 4096
}

// hall is a field, with its sums and products as tables, and how many elements a row has.
type hall struct {
	f            api.Field
	q, n         int
	sum, product [][]int
}

// hallOf makes the sums digit by digit, and the products by adding what shifted gives.
func hallOf(f api.Field, n int) hall {
	h := hall{f: f, q: orderOf(f), n: n}
	for a := range h.q {
		var row []int
		x := digits(a, f.Prime, f.Degree)
		for b := range h.q {
			y := digits(b, f.Prime, f.Degree)
			for i := range y {
				y[i] = (x[i] + y[i]) % f.Prime
			}
			row = append(row, number(y, f.Prime))
		}
		h.sum = append(h.sum, row)
	}
	for a := range h.q {
		var row []int
		for b := range h.q {
			out := 0
			y := digits(b, f.Prime, f.Degree)
			for i := f.Degree - 1; i >= 0; i-- {
				out = shifted(f, out)
				for range y[i] {
					out = h.sum[out][a]
				}
			}
			row = append(row, out)
		}
		h.product = append(h.product, row)
	}
	return h
}

// shifted gives x times a: what goes over the top comes back as less Low.
func shifted(f api.Field, a int) int {
	x := digits(a, f.Prime, f.Degree)
	top := x[f.Degree-1]
	out := make([]int, f.Degree)
	copy(out[1:], x)
	for i := range out {
		out[i] = ((out[i]-top*f.Low[i])%f.Prime + f.Prime) % f.Prime
	}
	return number(out, f.Prime)
}

// halls has each field with each number of elements that fits.
func halls() []hall {
	var out []hall
	for _, f := range fields() {
		for n := 1; fits(orderOf(f), n); n++ {
			out = append(out, hallOf(f, n))
		}
	}
	return out
}

// smallHalls have few enough spaces to take each two.
func smallHalls() []hall {
	var out []hall
	for _, f := range []api.Field{numberField(2, 0), numberField(3, 1), four(), numberField(5, 2), numberField(7, 0)} {
		for n := 1; n <= 4 && power(orderOf(f), n) <= 64; n++ {
			out = append(out, hallOf(f, n))
		}
	}
	return out
}

// size is how many rows there are.
func (h hall) size() int { return power(h.q, h.n) }

// row is one of all, by its number.
func (h hall) row(i int) []int { return digits(i, h.q, h.n) }

// place is the number of a row.
func (h hall) place(row []int) int { return number(row, h.q) }

// plus adds a row, times an element, to another one.
func (h hall) plus(v []int, a int, w []int) []int {
	out := make([]int, h.n)
	for i := range out {
		out[i] = h.sum[v[i]][h.product[a][w[i]]]
	}
	return out
}

// dot is the sum of the products, place by place.
func (h hall) dot(v, w []int) int {
	out := 0
	for i := range v {
		out = h.sum[out][h.product[v[i]][w[i]]]
	}
	return out
}

// spaceOf tells of each row whether it can be made of some, by adding and by multiplying.
func (h hall) spaceOf(rows [][]int) []bool {
	in := make([]bool, h.size())
	in[0] = true
	made := [][]int{make([]int, h.n)}
	for _, row := range rows {
		if in[h.place(row)] {
			continue
		}
		for _, v := range slices.Clone(made) {
			for a := 1; a < h.q; a++ {
				w := h.plus(v, a, row)
				in[h.place(w)] = true
				made = append(made, w)
			}
		}
	}
	return in
}

// meetOf has the rows that lie in both.
func meetOf(one, other []bool) []bool {
	out := slices.Clone(one)
	for i := range out {
		out[i] = one[i] && other[i]
	}
	return out
}

// normalOf tells of each row whether its sum of products with each of some is 0.
func (h hall) normalOf(rows [][]int) []bool {
	out := make([]bool, h.size())
	for i := range out {
		v := h.row(i)
		out[i] = !slices.ContainsFunc(rows, func(row []int) bool { return h.dot(v, row) != 0 })
	}
	return out
}

// leadOf is where the first element stands that is not 0, or how many there are.
func leadOf(row []int) int {
	for i, x := range row {
		if x != 0 {
			return i
		}
	}
	return len(row)
}

// hasForm goes by the words of S2: are some rows such as a basis has?
func hasForm(n int, rows [][]int) bool {
	ahead := -1
	for i, row := range rows {
		if len(row) != n {
			return false
		}
		c := leadOf(row)
		if c == n || row[c] != 1 || c <= ahead {
			return false
		}
		ahead = c
		for j, other := range rows {
			if j != i && other[c] != 0 {
				return false
			}
		}
	}
	return true
}

// bases gives all lists of k rows that are as a basis is.
func (h hall) bases(k int) [][][]int {
	var out [][][]int
	var add func(rows [][]int)
	add = func(rows [][]int) {
		if len(rows) == k {
			out = append(out, slices.Clone(rows))
			return
		}
		for i := range h.size() {
			if next := append(slices.Clone(rows), h.row(i)); hasForm(h.n, next) {
				add(next)
			}
		}
	}
	add(nil)
	return out
}

// allBases gives those of any number of rows.
func (h hall) allBases() [][][]int {
	var out [][][]int
	for k := range h.n + 1 {
		out = append(out, h.bases(k)...)
	}
	return out
}

// strewn gives some rows of a space that some few rows make, so that often not all rows are there.
func (h hall) strewn(many int, next func(int) int) [][]int {
	var few, out [][]int
	for range next(h.n + 1) {
		few = append(few, h.row(next(h.size())))
	}
	for range many {
		row := make([]int, h.n)
		for _, v := range few {
			row = h.plus(row, next(h.q), v)
		}
		out = append(out, row)
	}
	return out
}

func (h hall) String() string {
	return fmt.Sprintf("%v, n %d", h.f, h.n)
}

func name(call string, told ...any) string {
	return call + " of " + fmt.Sprint(told...)
}

func wantNumber(t *testing.T, call string, got int, e api.Errno, want int, wantError api.Errno) {
	t.Helper()
	if got != want || e != wantError {
		t.Errorf("%s: got %d, error %d; want %d, error %d", call, got, e, want, wantError)
	}
}

func wantBool(t *testing.T, call string, got bool, e api.Errno, want bool, wantError api.Errno) {
	t.Helper()
	if got != want || e != wantError {
		t.Errorf("%s: got %t, error %d; want %t, error %d", call, got, e, want, wantError)
	}
}

func sameRows(a, b [][]int) bool {
	return slices.EqualFunc(a, b, slices.Equal[[]int])
}

// wantRows has no list beside an error.
func wantRows(t *testing.T, call string, got [][]int, e api.Errno, want [][]int, wantError api.Errno) {
	t.Helper()
	if !sameRows(got, want) || e != wantError {
		t.Errorf("%s: got %v, error %d; want %v, error %d", call, got, e, want, wantError)
	}
}

// wantBasis is fulfilled by one list alone: that which has the form, and whose space is the one that is wanted.
func (h hall) wantBasis(t *testing.T, call string, got [][]int, e api.Errno, want []bool) {
	t.Helper()
	if e != api.OK {
		t.Errorf("%s: %s: error %d", h, call, e)
	} else if !hasForm(h.n, got) {
		t.Errorf("%s: %s: got %v", h, call, got)
	} else if !slices.Equal(h.spaceOf(got), want) {
		t.Errorf("%s: %s: got %v, which make another space", h, call, got)
	}
}
