package group_test

import (
	"fmt"
	"slices"
	"testing"

	"parterre/api"
	"parterre/group"
)

// The helpers here go by the words of the document, and by other ways than the package, so that a fault of the one is no fault of the other.

// all gives all permutations of n points, in order, by their first number and what may stand behind it.
func all(n int) [][]int {
	var grow func(head []int) [][]int
	grow = func(head []int) [][]int {
		if len(head) == n {
			return [][]int{head}
		}
		var out [][]int
		for next := range n {
			if !slices.Contains(head, next) {
				out = append(out, grow(append(slices.Clone(head), next))...)
			}
		}
		return out
	}
	return grow(nil)
}

func stay(n int) []int {
	out := make([]int, n)
	for i := range out {
		out[i] = i
	}
	return out
}

// turn moves each of n points to the next one, round.
func turn(n int) []int {
	return append(stay(n)[1:], 0)
}

// mixed gives a permutation of n points that looks like none: the same one for the same start.
func mixed(n, start int) []int {
	out := stay(n)
	x := uint64(start)*2654435761 + 12345
	for i := n - 1; i > 0; i-- {
		x = x*6364136223846793005 + 1442695040888963407
		j := int(x>>33) % (i + 1)
		out[i], out[j] = out[j], out[i]
	}
	return out
}

// then is first a, then b.
func then(a, b []int) []int {
	out := make([]int, len(a))
	for point := range a {
		out[point] = b[a[point]]
	}
	return out
}

// undone looks for each point that something goes to.
func undone(a []int) []int {
	var out []int
	for point := range a {
		out = append(out, slices.Index(a, point))
	}
	return out
}

// rank tells which of all permutations of so many points a is: it counts those ahead.
func rank(a []int) int {
	out := 0
	for i := range a {
		lesser := 0
		for _, b := range a[i+1:] {
			if b < a[i] {
				lesser++
			}
		}
		out = out*(len(a)-i) + lesser
	}
	return out
}

func factorial(n int) int {
	out := 1
	for i := range n {
		out *= i + 1
	}
	return out
}

// members gives the group, in order: it goes on from what moves nothing with each maker ahead, and what is reached is kept by its rank.
func members(n int, makers [][]int) [][]int {
	met := make([]bool, factorial(n))
	met[0] = true
	work := [][]int{stay(n)}
	for len(work) > 0 {
		a := work[len(work)-1]
		work = work[:len(work)-1]
		for _, m := range makers {
			if next := then(m, a); !met[rank(next)] {
				met[rank(next)] = true
				work = append(work, next)
			}
		}
	}
	var out [][]int
	for k, a := range all(n) {
		if met[k] {
			out = append(out, a)
		}
	}
	return out
}

type maker struct {
	n      int
	makers [][]int
}

// small gives all groups of up to 2 makers on up to 4 points, the same one many times.
func small() []maker {
	var out []maker
	for n := 1; n <= 4; n++ {
		out = append(out, maker{n, nil})
		for _, a := range all(n) {
			out = append(out, maker{n, [][]int{a}})
			for _, b := range all(n) {
				out = append(out, maker{n, [][]int{a, b}})
			}
		}
	}
	return out
}

// some gives small ones, and some of 3 and 4 makers, and of 5 to 7 points.
func some() []maker {
	out := small()
	for start := range 20 {
		for n := 3; n <= 5; n++ {
			out = append(out, maker{n, [][]int{mixed(n, start), mixed(n, 100+start), mixed(n, 200+start)}})
			out = append(out, maker{n, [][]int{mixed(n, start), stay(n), mixed(n, 300+start), mixed(n, start)}})
		}
		out = append(out, maker{5, [][]int{mixed(5, start)}}, maker{5, [][]int{mixed(5, start), mixed(5, 500+start)}})
		out = append(out, maker{6, [][]int{mixed(6, start)}}, maker{7, [][]int{mixed(7, start)}})
	}
	for _, k := range known() {
		out = append(out, maker{k.n, k.makers})
	}
	return out
}

// few leaves out groups of which going through all pairs takes too long.
func few() []maker {
	return slices.DeleteFunc(some(), func(m maker) bool { return len(members(m.n, m.makers)) > 130 })
}

func name(call string, m maker) string {
	return fmt.Sprintf("%s(%d, %v)", call, m.n, m.makers)
}

// knownGroup is one that books tell all of.
type knownGroup struct {
	name           string
	n              int
	makers         [][]int
	order, deep    int
	primitive      bool
	centre, derive int
	fixed          []int
}

func known() []knownGroup {
	return []knownGroup{
		{"of one point", 1, nil, 1, 1, false, 1, 1, []int{0, 1}},
		{"none on 2", 2, nil, 1, 0, false, 1, 1, []int{0, 0, 1}},
		{"all of 2", 2, [][]int{{1, 0}}, 2, 2, true, 2, 1, []int{1, 0, 1}},
		{"none on 3", 3, [][]int{{0, 1, 2}}, 1, 0, false, 1, 1, []int{0, 0, 0, 1}},
		{"even ones of 3", 3, [][]int{{1, 2, 0}}, 3, 1, true, 3, 1, []int{2, 0, 0, 1}},
		{"all of 3", 3, [][]int{{1, 2, 0}, {1, 0, 2}}, 6, 3, true, 1, 3, []int{2, 3, 0, 1}},
		{"of Klein", 4, [][]int{{1, 0, 3, 2}, {2, 3, 0, 1}}, 4, 1, false, 4, 1, []int{3, 0, 0, 0, 1}},
		{"of the square", 4, [][]int{{1, 2, 3, 0}, {2, 1, 0, 3}}, 8, 1, false, 2, 2, []int{5, 0, 2, 0, 1}},
		{"even ones of 4", 4, [][]int{{1, 2, 0, 3}, {0, 2, 3, 1}}, 12, 2, true, 1, 4, []int{3, 8, 0, 0, 1}},
		{"all of 4", 4, [][]int{{1, 2, 3, 0}, {1, 0, 2, 3}}, 24, 4, true, 1, 12, []int{9, 8, 6, 0, 1}},
		{"all of 4 by exchanges", 4, [][]int{{1, 0, 2, 3}, {0, 2, 1, 3}, {0, 1, 3, 2}}, 24, 4, true, 1, 12, []int{9, 8, 6, 0, 1}},
		{"turns of 5", 5, [][]int{{1, 2, 3, 4, 0}}, 5, 1, true, 5, 1, []int{4, 0, 0, 0, 0, 1}},
		{"of the pentagon", 5, [][]int{{1, 2, 3, 4, 0}, {0, 4, 3, 2, 1}}, 10, 1, true, 1, 5, []int{4, 5, 0, 0, 0, 1}},
		{"x to 2 x + c modulo 5", 5, [][]int{{1, 2, 3, 4, 0}, {0, 2, 4, 1, 3}}, 20, 2, true, 1, 5, []int{4, 15, 0, 0, 0, 1}},
		{"even ones of 5", 5, [][]int{{1, 2, 3, 4, 0}, {1, 2, 0, 3, 4}}, 60, 3, true, 1, 60, []int{24, 15, 20, 0, 0, 1}},
		{"all of 5", 5, [][]int{{1, 2, 3, 4, 0}, {1, 0, 2, 3, 4}}, 120, 5, true, 1, 60, []int{44, 45, 20, 10, 0, 1}},
		{"turns of 6", 6, [][]int{turn(6)}, 6, 1, false, 6, 1, []int{5, 0, 0, 0, 0, 0, 1}},
		{"of the hexagon", 6, [][]int{turn(6), {0, 5, 4, 3, 2, 1}}, 12, 1, false, 2, 3, []int{8, 0, 3, 0, 0, 0, 1}},
		{"of three pairs", 6, [][]int{{1, 0, 2, 3, 4, 5}, {2, 3, 4, 5, 0, 1}, {2, 3, 0, 1, 4, 5}}, 48, 1, false, 2, 12, []int{29, 0, 15, 0, 3, 0, 1}},
		{"of two triples", 6, [][]int{{1, 2, 0, 3, 4, 5}, {1, 0, 2, 3, 4, 5}, {3, 4, 5, 0, 1, 2}}, 72, 1, false, 1, 18, []int{40, 12, 9, 4, 6, 0, 1}},
		{"of the line of 5 and one far off", 6, [][]int{{1, 2, 3, 4, 0, 5}, {0, 2, 4, 1, 3, 5}, {5, 4, 2, 3, 1, 0}}, 120, 3, true, 1, 60, []int{50, 24, 45, 0, 0, 0, 1}},
		{"even ones of that line", 6, [][]int{{1, 2, 3, 4, 0, 5}, {0, 4, 3, 2, 1, 5}, {5, 4, 2, 3, 1, 0}}, 60, 2, true, 1, 60, []int{20, 24, 15, 0, 0, 0, 1}},
		{"turns of 7", 7, [][]int{turn(7)}, 7, 1, true, 7, 1, []int{6, 0, 0, 0, 0, 0, 0, 1}},
		{"of the heptagon", 7, [][]int{turn(7), {0, 6, 5, 4, 3, 2, 1}}, 14, 1, true, 1, 7, []int{6, 7, 0, 0, 0, 0, 0, 1}},
		{"x to 2 x + c modulo 7", 7, [][]int{turn(7), {0, 2, 4, 6, 1, 3, 5}}, 21, 1, true, 1, 7, []int{6, 14, 0, 0, 0, 0, 0, 1}},
		{"x to 3 x + c modulo 7", 7, [][]int{turn(7), {0, 3, 6, 2, 5, 1, 4}}, 42, 2, true, 1, 7, []int{6, 35, 0, 0, 0, 0, 0, 1}},
		{"of the plane of 7", 7, [][]int{turn(7), {0, 2, 4, 6, 1, 3, 5}, {0, 1, 6, 3, 5, 4, 2}}, 168, 2, true, 1, 168, []int{48, 98, 0, 21, 0, 0, 0, 1}},
		{"of 3 and of 4", 7, [][]int{{1, 2, 0, 3, 4, 5, 6}, {1, 0, 2, 3, 4, 5, 6}, {0, 1, 2, 4, 5, 6, 3}, {0, 1, 2, 4, 3, 5, 6}}, 144, 0, false, 1, 36, []int{18, 43, 36, 27, 10, 9, 0, 1}},
		{"even ones of 7", 7, [][]int{turn(7), {1, 2, 0, 3, 4, 5, 6}}, 2520, 5, true, 1, 2520, []int{930, 910, 504, 105, 70, 0, 0, 1}},
		{"all of 7", 7, [][]int{turn(7), {1, 0, 2, 3, 4, 5, 6}}, 5040, 7, true, 1, 2520, []int{1854, 1855, 924, 315, 70, 21, 0, 1}},
	}
}

func element(t *testing.T, m maker, k int) []int {
	t.Helper()
	out, e := group.Element(m.n, m.makers, k)
	if e != api.OK || len(out) != m.n {
		t.Fatalf("%s of %d: got %v, error %d", name("Element", m), k, out, e)
	}
	return out
}

// wantNumber is for what gives a number and no error.
func wantNumber(t *testing.T, call string, got int, e api.Errno, want int) {
	t.Helper()
	if got != want || e != api.OK {
		t.Errorf("%s: got %d, error %d; want %d", call, got, e, want)
	}
}

func wantBool(t *testing.T, call string, got bool, e api.Errno, want bool) {
	t.Helper()
	if got != want || e != api.OK {
		t.Errorf("%s: got %t, error %d; want %t", call, got, e, want)
	}
}

func wantList(t *testing.T, call string, got []int, e api.Errno, want []int) {
	t.Helper()
	if !slices.Equal(got, want) || e != api.OK {
		t.Errorf("%s: got %v, error %d; want %v", call, got, e, want)
	}
}

func order(t *testing.T, m maker) int {
	t.Helper()
	out, e := group.Order(m.n, m.makers)
	if e != api.OK || out < 1 {
		t.Fatalf("%s: got %d, error %d", name("Order", m), out, e)
	}
	return out
}
