package count_test

import (
	"fmt"
	"slices"
	"testing"

	"parterre/api"
	"parterre/group"
)

// The helpers here go by the words of the document, and by other ways than the package, so that a fault of the one is no fault of the other.

func stay(n int) []int {
	out := make([]int, n)
	for i := range out {
		out[i] = i
	}
	return out
}

// turn moves each of n points to the next one, round.
func turn(n int) []int {
	return append(stay(n)[1:], 0)
}

// over has the points the other way round.
func over(n int) []int {
	out := stay(n)
	slices.Reverse(out)
	return out
}

// exchange is that of the first two of n points, or nothing, if there is one.
func exchange(n int) []int {
	out := stay(n)
	if n > 1 {
		out[0], out[1] = 1, 0
	}
	return out
}

// all gives all permutations of n points.
func all(n int) [][]int {
	if n == 0 {
		return [][]int{nil}
	}
	var out [][]int
	for _, a := range all(n - 1) {
		for at := range n {
			out = append(out, slices.Insert(slices.Clone(a), at, n-1))
		}
	}
	return out
}

// mixed gives a permutation of n points that looks like none: the same one for the same start.
func mixed(n, start int) []int {
	out := stay(n)
	x := uint64(start)*2654435761 + 12345
	for i := n - 1; i > 0; i-- {
		x = x*6364136223846793005 + 1442695040888963407
		j := int(x>>33) % (i + 1)
		out[i], out[j] = out[j], out[i]
	}
	return out
}

type maker struct {
	n      int
	makers [][]int
}

// small gives all groups of up to 2 makers on up to 4 points, the same one many times.
func small() []maker {
	var out []maker
	for n := 1; n <= 4; n++ {
		out = append(out, maker{n, nil})
		for _, a := range all(n) {
			out = append(out, maker{n, [][]int{a}})
			for _, b := range all(n) {
				out = append(out, maker{n, [][]int{a, b}})
			}
		}
	}
	return out
}

// some gives small ones, and some of 3 and 4 makers, and of 5 to 7 points.
func some() []maker {
	out := small()
	for n := 5; n <= 7; n++ {
		out = append(out, maker{n, nil}, maker{n, [][]int{turn(n)}}, maker{n, [][]int{turn(n), over(n)}}, maker{n, [][]int{turn(n), exchange(n)}})
	}
	for start := range 8 {
		for n := 4; n <= 7; n++ {
			out = append(out, maker{n, [][]int{mixed(n, start)}}, maker{n, [][]int{mixed(n, start), mixed(n, 100+start)}})
		}
		out = append(out, maker{5, [][]int{mixed(5, start), stay(5), mixed(5, 300+start), mixed(5, start)}})
	}
	for _, k := range known() {
		out = append(out, maker{k.n, k.makers})
	}
	return out
}

func name(call string, m maker) string {
	return fmt.Sprintf("%s(%d, %v)", call, m.n, m.makers)
}

// knownGroup is one of which books tell how many there are of each kind.
type knownGroup struct {
	name   string
	n      int
	makers [][]int
	index  [][]int
}

func known() []knownGroup {
	return []knownGroup{
		{"of one point", 1, nil, [][]int{{1, 1}}},
		{"all of 2", 2, [][]int{{1, 0}}, [][]int{{1, 2, 0}, {1, 0, 1}}},
		{"all of 3", 3, [][]int{{1, 2, 0}, {1, 0, 2}}, [][]int{{1, 3, 0, 0}, {3, 1, 1, 0}, {2, 0, 0, 1}}},
		{"of Klein", 4, [][]int{{1, 0, 3, 2}, {2, 3, 0, 1}}, [][]int{{1, 4, 0, 0, 0}, {3, 0, 2, 0, 0}}},
		{"of the square", 4, [][]int{{1, 2, 3, 0}, {2, 1, 0, 3}}, [][]int{{1, 4, 0, 0, 0}, {2, 2, 1, 0, 0}, {3, 0, 2, 0, 0}, {2, 0, 0, 0, 1}}},
		{"even ones of 4", 4, [][]int{{1, 2, 0, 3}, {0, 2, 3, 1}}, [][]int{{1, 4, 0, 0, 0}, {8, 1, 0, 1, 0}, {3, 0, 2, 0, 0}}},
		{"all of 4", 4, [][]int{{1, 2, 3, 0}, {1, 0, 2, 3}}, [][]int{{1, 4, 0, 0, 0}, {6, 2, 1, 0, 0}, {8, 1, 0, 1, 0}, {3, 0, 2, 0, 0}, {6, 0, 0, 0, 1}}},
		{"of the cube's six sides", 6, cube(), [][]int{{1, 6, 0, 0, 0, 0, 0}, {3, 2, 2, 0, 0, 0, 0}, {6, 2, 0, 0, 1, 0, 0}, {6, 0, 3, 0, 0, 0, 0}, {8, 0, 0, 2, 0, 0, 0}}},
		{"of the plane of 7", 7, plane(), [][]int{{1, 7, 0, 0, 0, 0, 0, 0}, {21, 3, 2, 0, 0, 0, 0, 0}, {42, 1, 1, 0, 1, 0, 0, 0}, {56, 1, 0, 2, 0, 0, 0, 0}, {48, 0, 0, 0, 0, 0, 0, 1}}},
		{"all of 7", 7, [][]int{turn(7), exchange(7)}, [][]int{
			{1, 7, 0, 0, 0, 0, 0, 0}, {21, 5, 1, 0, 0, 0, 0, 0}, {70, 4, 0, 1, 0, 0, 0, 0}, {105, 3, 2, 0, 0, 0, 0, 0}, {210, 3, 0, 0, 1, 0, 0, 0},
			{420, 2, 1, 1, 0, 0, 0, 0}, {504, 2, 0, 0, 0, 1, 0, 0}, {105, 1, 3, 0, 0, 0, 0, 0}, {630, 1, 1, 0, 1, 0, 0, 0}, {280, 1, 0, 2, 0, 0, 0, 0},
			{840, 1, 0, 0, 0, 0, 1, 0}, {210, 0, 2, 1, 0, 0, 0, 0}, {504, 0, 1, 0, 0, 1, 0, 0}, {420, 0, 0, 1, 1, 0, 0, 0}, {720, 0, 0, 0, 0, 0, 0, 1}}},
	}
}

// cube turns a die by a quarter, about two of its axes; 0 and 5, 1 and 4, 2 and 3 lie across.
func cube() [][]int {
	return [][]int{{0, 2, 4, 1, 3, 5}, {1, 5, 2, 3, 0, 4}}
}

// plane has what keeps the lines 013, 124 and so on.
func plane() [][]int {
	return [][]int{turn(7), {0, 2, 4, 6, 1, 3, 5}, {0, 1, 6, 3, 5, 4, 2}}
}

// colourings gives all rows of n colours.
func colourings(n, colours int) [][]int {
	out := [][]int{nil}
	for range n {
		var longer [][]int
		for _, row := range out {
			for c := range colours {
				longer = append(longer, append(slices.Clone(row), c))
			}
		}
		out = longer
	}
	return out
}

// code tells a colouring from all others of as many points in at most 8 colours.
func code(row []int) int {
	out := 0
	for _, c := range row {
		out = out*8 + c
	}
	return out
}

// parted counts the lists into which the makers, again and again, part some colourings: no group is made for it.
func parted(makers [][]int, rows [][]int) int {
	out := 0
	met := map[int]bool{}
	for _, row := range rows {
		if met[code(row)] {
			continue
		}
		out++
		met[code(row)] = true
		for work := [][]int{row}; len(work) > 0; {
			from := work[len(work)-1]
			work = work[:len(work)-1]
			for _, m := range makers {
				next := make([]int, len(from))
				for i, to := range m {
					next[to] = from[i]
				}
				if !met[code(next)] {
					met[code(next)] = true
					work = append(work, next)
				}
			}
		}
	}
	return out
}

// holds: has the row just so many points of each colour?
func holds(row, many []int) bool {
	left := slices.Clone(many)
	for _, c := range row {
		left[c]--
	}
	return !slices.ContainsFunc(left, func(x int) bool { return x != 0 })
}

// contents gives all lists of so many numbers, from 0 on, with this sum.
func contents(numbers, sum int) [][]int {
	if numbers == 0 {
		if sum == 0 {
			return [][]int{nil}
		}
		return nil
	}
	var out [][]int
	for first := range sum + 1 {
		for _, behind := range contents(numbers-1, sum-first) {
			out = append(out, append([]int{first}, behind...))
		}
	}
	return out
}

func power(base, n int) int {
	out := 1
	for range n {
		out *= base
	}
	return out
}

// choose goes by Pascal's triangle.
func choose(n, k int) int {
	row := []int{1}
	for range n {
		next := []int{1}
		for i := 1; i < len(row); i++ {
			next = append(next, row[i-1]+row[i])
		}
		row = append(next, 1)
	}
	return row[k]
}

func order(t *testing.T, m maker) int {
	t.Helper()
	out, e := group.Order(m.n, m.makers)
	if e != api.OK || out < 1 {
		t.Fatalf("%s: got %d, error %d", name("Order", m), out, e)
	}
	return out
}

// wantNumber is for what gives a number and no error.
func wantNumber(t *testing.T, call string, got int, e api.Errno, want int) {
	t.Helper()
	if got != want || e != api.OK {
		t.Errorf("%s: got %d, error %d; want %d", call, got, e, want)
	}
}

func wantRows(t *testing.T, call string, got [][]int, e api.Errno, want [][]int) {
	t.Helper()
	if !slices.EqualFunc(got, want, slices.Equal) || e != api.OK {
		t.Errorf("%s: got %v, error %d; want %v", call, got, e, want)
	}
}
