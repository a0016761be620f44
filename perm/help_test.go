package perm_test

import (
	"slices"
	"strconv"
	"testing"

	"parterre/api"
	"parterre/perm"
)

// The helpers here go by the words of the document, and by other ways than the package, so that a fault of the one is no fault of the other.

// all gives all permutations of n points, in order, by their first number and what may stand behind it.
func all(n int) [][]int {
	var grow func(head []int) [][]int
	grow = func(head []int) [][]int {
		if len(head) == n {
			return [][]int{head}
		}
		var out [][]int
		for next := range n {
			if !slices.Contains(head, next) {
				out = append(out, grow(append(slices.Clone(head), next))...)
			}
		}
		return out
	}
	return grow(nil)
}

// upTo gives all permutations of 0 to n points.
func upTo(n int) [][]int {
	var out [][]int
	for m := range n + 1 {
		out = append(out, all(m)...)
	}
	return out
}

func stay(n int) []int {
	out := make([]int, n)
	for i := range out {
		out[i] = i
	}
	return out
}

// mixed gives a permutation of n points that looks like none: the same one for the same start.
func mixed(n, start int) []int {
	out := stay(n)
	x := uint64(start)*2654435761 + 12345
	for i := n - 1; i > 0; i-- {
		x = x*6364136223846793005 + 1442695040888963407
		j := int(x>>33) % (i + 1)
		out[i], out[j] = out[j], out[i]
	}
	return out
}

// some gives all permutations of few points, and some of many.
func some() [][]int {
	out := upTo(5)
	for n := 6; n <= api.MaxPoints; n++ {
		out = append(out, stay(n))
		for start := range 60 {
			out = append(out, mixed(n, start))
		}
	}
	return out
}

// then is first a, then b: each point goes where b moves what a moves it to.
func then(a, b []int) []int {
	var out []int
	for point := range a {
		out = append(out, b[a[point]])
	}
	return out
}

// undone looks for each point that something goes to.
func undone(a []int) []int {
	var out []int
	for point := range a {
		out = append(out, slices.Index(a, point))
	}
	return out
}

// times goes one by one.
func times(a []int, n int) []int {
	if n < 0 {
		return times(undone(a), -n)
	}
	out := stay(len(a))
	for range n {
		out = then(out, a)
	}
	return out
}

// farTimes goes by doubling, for which n is 0 or more.
func farTimes(a []int, n int) []int {
	out := stay(len(a))
	for ; n > 0; n /= 2 {
		if n%2 == 1 {
			out = then(out, a)
		}
		a = then(a, a)
	}
	return out
}

// exchanges counts how many exchanges of two points put all in order.
func exchanges(a []int) int {
	a = slices.Clone(a)
	out := 0
	for i := range a {
		for a[i] != i {
			j := a[i]
			a[i], a[j] = a[j], a[i]
			out++
		}
	}
	return out
}

// lengths gives those of all cycles, rising: each point says how long it takes to come back, and so says each of its cycle.
func lengths(a []int) []int {
	said := make([]int, len(a)+1)
	for point := range a {
		long := 1
		for at := a[point]; at != point; at = a[at] {
			long++
		}
		said[long]++
	}
	var out []int
	for long := 1; long <= len(a); long++ {
		out = append(out, slices.Repeat([]int{long}, said[long]/long)...)
	}
	return out
}

// text goes by M3: a point begins a cycle just if none of its cycle is less.
func text(a []int) string {
	out := ""
	for point := range a {
		row := []int{point}
		for at := a[point]; at != point; at = a[at] {
			row = append(row, at)
		}
		if len(row) == 1 || slices.Min(row) != point {
			continue
		}
		out += "("
		for i, p := range row {
			if i > 0 {
				out += " "
			}
			out += strconv.Itoa(p)
		}
		out += ")"
	}
	if out == "" {
		return "()"
	}
	return out
}

// wantList is for what gives a permutation and no error.
func wantList(t *testing.T, call string, got []int, e api.Errno, want []int) {
	t.Helper()
	if !slices.Equal(got, want) || e != api.OK {
		t.Errorf("%s: got %v, error %d; want %v", call, got, e, want)
	}
}

func compose(t *testing.T, a, b []int) []int {
	t.Helper()
	out, e := perm.Compose(a, b)
	if e != api.OK || len(out) != len(a) {
		t.Fatalf("Compose(%v, %v): got %v, error %d", a, b, out, e)
	}
	return out
}

func inverse(t *testing.T, a []int) []int {
	t.Helper()
	out, e := perm.Inverse(a)
	if e != api.OK || len(out) != len(a) {
		t.Fatalf("Inverse(%v): got %v, error %d", a, out, e)
	}
	return out
}

func sign(t *testing.T, a []int) int {
	t.Helper()
	out, e := perm.Sign(a)
	if e != api.OK {
		t.Fatalf("Sign(%v): error %d", a, e)
	}
	return out
}

func alike(t *testing.T, a, b []int) bool {
	t.Helper()
	out, e := perm.Alike(a, b)
	if e != api.OK {
		t.Fatalf("Alike(%v, %v): error %d", a, b, e)
	}
	return out
}
