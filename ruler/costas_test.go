package ruler_test

import (
	"math"
	"slices"
	"testing"

	"parterre/api"
	"parterre/ruler"
)

// TestCostasOfWrongOnes has R2's first: what perm's Check says comes first.
func TestCostasOfWrongOnes(t *testing.T) {
	for _, c := range []struct {
		a    []int
		want api.Errno
	}{
		{upTo(13), api.ErrFull},
		{slices.Repeat([]int{-1}, 13), api.ErrFull},
		{slices.Repeat([]int{0}, 1000), api.ErrFull},
		{[]int{1}, api.ErrRange},
		{[]int{-1}, api.ErrRange},
		{[]int{0, 2}, api.ErrRange},
		{[]int{0, 0, 3}, api.ErrRange},
		{[]int{0, 1, -1}, api.ErrRange},
		{[]int{math.MinInt, math.MaxInt}, api.ErrRange},
		{append(upTo(11), 12), api.ErrRange},
		{[]int{0, 0}, api.ErrTwice},
		{[]int{0, 1, 0}, api.ErrTwice},
		{append(upTo(11), 10), api.ErrTwice},
	} {
		got, e := ruler.Costas(c.a)
		wantBool(t, name("Costas", c.a), got, e, false, c.want)
	}
}

// TestCostasOfAll has R2's first: each permutation of up to 7 points.
func TestCostasOfAll(t *testing.T) {
	for n := range 8 {
		for _, a := range permutations(n) {
			got, e := ruler.Costas(a)
			wantBool(t, name("Costas", a), got, e, costas(a), api.OK)
		}
	}
}

// TestCostasByHand has R2's first: the least, what has two steps alike, and what has no two steps alike but two of a longer way.
func TestCostasByHand(t *testing.T) {
	for _, c := range []struct {
		a    []int
		want bool
	}{
		{nil, true},
		{[]int{0}, true},
		{[]int{1, 0}, true},
		{[]int{0, 1, 2}, false},
		{[]int{0, 2, 1}, true},
		{[]int{2, 1, 0}, false},
		{[]int{1, 0, 3, 2}, false},
		{[]int{0, 1, 3, 2}, true},
		{[]int{0, 3, 1, 2}, true},
		{[]int{0, 1, 2, 4, 3}, false},               // twice 1 more on one place
		{[]int{0, 4, 1, 3, 2}, false},               // on two places only: twice 1 less
		{[]int{0, 2, 5, 3, 4, 1, 6}, false},         // on three places only: twice 1 less
		{[]int{0, 1, 3, 7, 4, 9, 8, 6, 2, 5}, true}, // Welch's of 11 and 2
		{upTo(12), false},
	} {
		got, e := ruler.Costas(c.a)
		wantBool(t, name("Costas", c.a), got, e, costas(c.a), api.OK)
		if got != c.want {
			t.Errorf("%s: got %v, want %v", name("Costas", c.a), got, c.want)
		}
	}
}

// TestCostasOfStrewnOnes has R2's first: permutations of 8 points and more, and Welch's with two points exchanged.
func TestCostasOfStrewnOnes(t *testing.T) {
	for n := 8; n <= 12; n++ {
		next := numbers(n)
		for range 200 {
			a := shuffled(n, next)
			got, e := ruler.Costas(a)
			wantBool(t, name("Costas", a), got, e, costas(a), api.OK)
		}
	}
	for _, a := range [][]int{welch(11, 2), welch(13, 6)} {
		for _, two := range pairs(len(a)) {
			b := slices.Clone(a)
			b[two[0]], b[two[1]] = b[two[1]], b[two[0]]
			got, e := ruler.Costas(b)
			wantBool(t, name("Costas", b), got, e, costas(b), api.OK)
		}
	}
}

// TestCostases has R2's last: all that may be asked, by trying all, and what lies beside it.
func TestCostases(t *testing.T) {
	for n := -3; n <= 20; n++ {
		got, e := ruler.Costases(n)
		if n < 1 || n > 7 {
			wantNumber(t, name("Costases", n), got, e, 0, api.ErrRange)
			continue
		}
		want := 0
		for _, a := range permutations(n) {
			if costas(a) {
				want++
			}
		}
		wantNumber(t, name("Costases", n), got, e, want, api.OK)
	}
	for _, n := range []int{math.MinInt, math.MaxInt, 1<<32 + 4, -1 << 32} {
		got, e := ruler.Costases(n)
		wantNumber(t, name("Costases", n), got, e, 0, api.ErrRange)
	}
}

// TestCostasesByHand has R2's last: what books tell.
func TestCostasesByHand(t *testing.T) {
	for i, want := range []int{1, 2, 4, 12, 40, 116, 200} {
		got, e := ruler.Costases(i + 1)
		wantNumber(t, name("Costases", i+1), got, e, want, api.OK)
	}
}

// isPrime counts divisors.
func isPrime(p int) bool {
	some := 0
	for d := 1; d <= p; d++ {
		if p%d == 0 {
			some++
		}
	}
	return some == 2
}

// power multiplies n times, and takes what is over p away at the end alone: 12 to the power of 11 is no great number.
func power(a, n, p int) int {
	out := 1
	for range n {
		out *= a
	}
	return out % p
}

// isRoot: is each number from 1 to p - 1 a power of it?
func isRoot(a, p int) bool {
	for x := 1; x < p; x++ {
		some := 0
		for n := range p - 1 {
			if power(a, n, p) == x {
				some++
			}
		}
		if some == 0 {
			return false
		}
	}
	return true
}

// welch goes by the words of R2.
func welch(p, root int) []int {
	var out []int
	for i := range p - 1 {
		out = append(out, power(root, i, p)-1)
	}
	return out
}

// TestWelch has R2's second: all numbers about those that may be.
func TestWelch(t *testing.T) {
	some := 0
	for p := -5; p <= 40; p++ {
		for root := -5; root <= 40; root++ {
			got, e := ruler.Welch(p, root)
			call := name("Welch", p, ", ", root)
			switch {
			case p < 3 || p > 13 || !isPrime(p) || root < 1 || root > p-1:
				wantList(t, call, got, e, nil, api.ErrRange)
			case !isRoot(root, p):
				wantList(t, call, got, e, nil, api.ErrNone)
			default:
				some++
				wantList(t, call, got, e, welch(p, root), api.OK)
			}
		}
	}
	if some != 1+2+2+4+4 {
		t.Errorf("%d roots", some)
	}
}

// TestWelchByHand has R2's second: each prime, numbers that are no roots, and what lies just beside.
func TestWelchByHand(t *testing.T) {
	for _, c := range []struct {
		p, root int
		want    []int
		wantE   api.Errno
	}{
		{1, 1, nil, api.ErrRange},
		{2, 1, nil, api.ErrRange},
		{3, 0, nil, api.ErrRange},
		{3, 1, nil, api.ErrNone},
		{3, 2, []int{0, 1}, api.OK},
		{3, 3, nil, api.ErrRange},
		{3, 5, nil, api.ErrRange},
		{4, 3, nil, api.ErrRange},
		{5, 3, []int{0, 2, 3, 1}, api.OK},
		{5, 4, nil, api.ErrNone},
		{5, -3, nil, api.ErrRange},
		{7, 2, nil, api.ErrNone},
		{7, 3, []int{0, 2, 1, 5, 3, 4}, api.OK},
		{8, 3, nil, api.ErrRange},
		{9, 2, nil, api.ErrRange},
		{11, 2, []int{0, 1, 3, 7, 4, 9, 8, 6, 2, 5}, api.OK},
		{11, 10, nil, api.ErrNone},
		{13, 2, []int{0, 1, 3, 7, 2, 5, 11, 10, 8, 4, 9, 6}, api.OK},
		{13, 12, nil, api.ErrNone},
		{13, 13, nil, api.ErrRange},
		{17, 3, nil, api.ErrRange},
		{math.MaxInt, 2, nil, api.ErrRange},
		{math.MinInt, 2, nil, api.ErrRange},
		{5, math.MaxInt, nil, api.ErrRange},
		{5, math.MinInt, nil, api.ErrRange},
		{1<<32 + 5, 2, nil, api.ErrRange},
		{5, 1<<32 + 2, nil, api.ErrRange},
	} {
		got, e := ruler.Welch(c.p, c.root)
		wantList(t, name("Welch", c.p, ", ", c.root), got, e, c.want, c.wantE)
	}
}
