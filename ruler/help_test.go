package ruler_test

import (
	"fmt"
	"slices"
	"testing"

	"parterre/api"
)

// The helpers here go by the words of the document, pair against pair and by trying all, so that a fault of the package is no fault of theirs.

// pairs gives the numbers of each two places of n, the lesser one first.
func pairs(n int) [][2]int {
	var out [][2]int
	for i := range n {
		for j := i + 1; j < n; j++ {
			out = append(out, [2]int{i, j})
		}
	}
	return out
}

// noTwo: do no two of a list have it that they are alike?
func noTwo(list [][2]int, alike func(one, other [2]int) bool) bool {
	for k, one := range list {
		for _, other := range list[k+1:] {
			if alike(one, other) {
				return false
			}
		}
	}
	return true
}

// golomb: are no two differences of marks alike?
func golomb(marks []int) bool {
	return noTwo(pairs(len(marks)), func(one, other [2]int) bool {
		return marks[one[1]]-marks[one[0]] == marks[other[1]]-marks[other[0]]
	})
}

// costas: have no two pairs of places both differences alike?
func costas(a []int) bool {
	return noTwo(pairs(len(a)), func(one, other [2]int) bool {
		return one[1]-one[0] == other[1]-other[0] && a[one[1]]-a[one[0]] == a[other[1]]-a[other[0]]
	})
}

// sidon: have no two pairs of a set, of which both may be the same, sums that v tells apart no more?
func sidon(set []int, v int) bool {
	var list [][2]int
	for i := range set {
		for j := i; j < len(set); j++ {
			list = append(list, [2]int{set[i], set[j]})
		}
	}
	return noTwo(list, func(one, other [2]int) bool {
		return (one[0]+one[1]-other[0]-other[1])%v == 0
	})
}

// chosen gives each list of n rising numbers, all from least to most, in order.
func chosen(n, least, most int) [][]int {
	if n == 0 {
		return [][]int{nil}
	}
	var out [][]int
	for x := least; x <= most; x++ {
		for _, rest := range chosen(n-1, x+1, most) {
			out = append(out, append([]int{x}, rest...))
		}
	}
	return out
}

// best tries all marks of each length.
func best(n int) []int {
	if n == 1 {
		return []int{0}
	}
	for length := 1; ; length++ {
		for _, inner := range chosen(n-2, 1, length-1) {
			marks := append(append([]int{0}, inner...), length)
			if golomb(marks) {
				return marks
			}
		}
	}
}

// permutations gives all of n points.
func permutations(n int) [][]int {
	if n == 0 {
		return [][]int{{}}
	}
	var out [][]int
	for _, a := range permutations(n - 1) {
		for i := range n {
			out = append(out, slices.Insert(slices.Clone(a), i, n-1))
		}
	}
	return out
}

// undone leads each point back.
func undone(a []int) []int {
	out := make([]int, len(a))
	for i := range a {
		out[i] = slices.Index(a, i)
	}
	return out
}

func fromBehind(a []int) []int {
	out := slices.Clone(a)
	slices.Reverse(out)
	return out
}

// upTo gives the numbers below n.
func upTo(n int) []int {
	var out []int
	for x := range n {
		out = append(out, x)
	}
	return out
}

// allSets gives each set of numbers below v.
func allSets(v int) [][]int {
	var out [][]int
	for bits := range 1 << v {
		var set []int
		for x := range v {
			if bits>>x&1 == 1 {
				set = append(set, x)
			}
		}
		out = append(out, set)
	}
	return out
}

// numbers gives numbers below n that are strewn, and the same ones each time.
func numbers(start int) func(n int) int {
	state := uint64(start)*0x9e3779b97f4a7c15 + 12345
	return func(n int) int {
		state = state*6364136223846793005 + 1442695040888963407
		return int(state>>33) % n
	}
}

// shuffled gives a permutation of n points.
func shuffled(n int, next func(n int) int) []int {
	out := upTo(n)
	for i := range out {
		j := i + next(n-i)
		out[i], out[j] = out[j], out[i]
	}
	return out
}

// erdosTuran has the marks 2 p k, and k k modulo p, for k below n: a Golomb ruler, if p is a prime from n on.
func erdosTuran(p, n int) []int {
	var out []int
	for k := range n {
		out = append(out, 2*p*k+k*k%p)
	}
	return out
}

// powersLessOne has n powers of 2, less 1 each.
func powersLessOne(n int) []int {
	var out []int
	for i := range n {
		out = append(out, 1<<i-1)
	}
	return out
}

func wantBool(t *testing.T, call string, got bool, e api.Errno, want bool, wantError api.Errno) {
	t.Helper()
	if got != want || e != wantError {
		t.Errorf("%s: got %v, error %d; want %v, error %d", call, got, e, want, wantError)
	}
}

func wantNumber(t *testing.T, call string, got int, e api.Errno, want int, wantError api.Errno) {
	t.Helper()
	if got != want || e != wantError {
		t.Errorf("%s: got %d, error %d; want %d, error %d", call, got, e, want, wantError)
	}
}

// wantList has no list beside an error.
func wantList(t *testing.T, call string, got []int, e api.Errno, want []int, wantError api.Errno) {
	t.Helper()
	if !slices.Equal(got, want) || e != wantError {
		t.Errorf("%s: got %v, error %d; want %v, error %d", call, got, e, want, wantError)
	}
}

// name is for what is told of a call.
func name(call string, of ...any) string {
	return call + " of " + fmt.Sprint(of...)
}
