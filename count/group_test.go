package count_test

import (
	"fmt"
	"slices"
	"testing"

	"parterre/count"
)

// TestColouringsOneByOne has C2: all colourings, moved one by one.
func TestColouringsOneByOne(t *testing.T) {
	for _, m := range some() {
		for colours := 1; colours <= 5 && power(colours, m.n) <= 2500; colours++ {
			got, e := count.Colourings(m.n, m.makers, colours)
			wantNumber(t, name("Colourings", m)+fmt.Sprint(" of ", colours), got, e, parted(m.makers, colourings(m.n, colours)))
		}
	}
}

// TestColouringsOfTheBooks has C2.
func TestColouringsOfTheBooks(t *testing.T) {
	for k, want := range []int{1, 10, 57, 240, 800, 2226, 5390, 11712, 23355, 43450} {
		got, e := count.Colourings(6, cube(), k+1)
		wantNumber(t, fmt.Sprintf("Colourings of the cube, %d", k+1), got, e, want)
	}
	got, e := count.Colourings(7, plane(), 2)
	wantNumber(t, "Colourings of the plane, 2", got, e, 10)
}

// TestColouringsUpToTheEnd has C2: of nothing that is moved, and of all that can be moved, up to 200 colours.
func TestColouringsUpToTheEnd(t *testing.T) {
	for n := 1; n <= 7; n++ {
		for _, colours := range []int{1, 2, 7, 99, 199, 200} {
			got, e := count.Colourings(n, nil, colours)
			wantNumber(t, fmt.Sprintf("Colourings(%d, none, %d)", n, colours), got, e, power(colours, n))
			got, e = count.Colourings(n, [][]int{turn(n), exchange(n)}, colours)
			wantNumber(t, fmt.Sprintf("Colourings(%d, all, %d)", n, colours), got, e, choose(n+colours-1, n))
		}
	}
}

// TestContentOneByOne has C2: the colourings of each content, moved one by one.
func TestContentOneByOne(t *testing.T) {
	for _, m := range some() {
		for numbers := 1; numbers <= 4 && power(numbers, m.n) <= 800; numbers++ {
			rows := colourings(m.n, numbers)
			for _, many := range contents(numbers, m.n) {
				held := slices.DeleteFunc(slices.Clone(rows), func(row []int) bool { return !holds(row, many) })
				got, e := count.Content(m.n, m.makers, many)
				wantNumber(t, name("Content", m)+fmt.Sprint(" of ", many), got, e, parted(m.makers, held))
			}
		}
	}
}

// TestContentOfTheBooks has C2: sides of a die by their colours, and points of the plane of 7.
func TestContentOfTheBooks(t *testing.T) {
	for _, x := range []struct {
		many []int
		want int
	}{
		{[]int{6}, 1}, {[]int{5, 1}, 1}, {[]int{4, 2}, 2}, {[]int{3, 3}, 2}, {[]int{2, 2, 2}, 6}, {[]int{1, 1, 1, 1, 1, 1}, 30}, {[]int{0, 1, 1, 1, 1, 1, 1, 0}, 30},
	} {
		got, e := count.Content(6, cube(), x.many)
		wantNumber(t, fmt.Sprintf("Content of the cube, %v", x.many), got, e, x.want)
	}
	for k, want := range []int{1, 1, 1, 2, 2, 1, 1, 1} {
		got, e := count.Content(7, plane(), []int{k, 7 - k})
		wantNumber(t, fmt.Sprintf("Content of the plane, %d", k), got, e, want)
	}
}

// TestContentUpToTheEnd has C2: up to 8 numbers, of nothing that is moved, of turns, and of all that can be moved.
func TestContentUpToTheEnd(t *testing.T) {
	for n := 1; n <= 7; n++ {
		each := append(slices.Repeat([]int{1}, n), make([]int, 8-n)...)
		ways := 1
		for i := range n {
			ways *= i + 1
		}
		got, e := count.Content(n, nil, each)
		wantNumber(t, fmt.Sprintf("Content(%d, none, %v)", n, each), got, e, ways)
		got, e = count.Content(n, [][]int{turn(n)}, each)
		wantNumber(t, fmt.Sprintf("Content(%d, turn, %v)", n, each), got, e, ways/n)
		step := 1 + n/6*40 // to make a great group takes long
		for i, many := range contents(8, n) {
			if i%step != 0 {
				continue
			}
			got, e := count.Content(n, [][]int{turn(n), exchange(n)}, many)
			wantNumber(t, fmt.Sprintf("Content(%d, all, %v)", n, many), got, e, 1)
		}
	}
}

// TestIndexOfTheBooks has C3.
func TestIndexOfTheBooks(t *testing.T) {
	for _, k := range known() {
		got, e := count.Index(k.n, k.makers)
		wantRows(t, "Index "+k.name, got, e, k.index)
	}
}

// kindOf goes round from each point, and has each cycle as often as it has points.
func kindOf(a []int) []int {
	out := make([]int, len(a))
	for p := range a {
		long := 1
		for at := a[p]; at != p; at = a[at] {
			long++
		}
		out[long-1]++
	}
	for i := range out {
		out[i] /= i + 1
	}
	return out
}

// TestIndexOneByOne has C3: of all groups, their permutations one by one.
func TestIndexOneByOne(t *testing.T) {
	for _, m := range some() {
		var want [][]int
		for _, a := range members(m.n, m.makers) {
			k := kindOf(a)
			at := slices.IndexFunc(want, func(row []int) bool { return slices.Equal(row[1:], k) })
			if at < 0 {
				at = len(want)
				want = append(want, append([]int{0}, k...))
			}
			want[at][0]++
		}
		slices.SortFunc(want, func(a, b []int) int { return slices.Compare(b[1:], a[1:]) })
		got, e := count.Index(m.n, m.makers)
		wantRows(t, name("Index", m), got, e, want)
	}
}

// members gives the group: it goes on from what moves nothing with each maker ahead.
func members(n int, makers [][]int) [][]int {
	met := map[int]bool{code(stay(n)): true}
	out := [][]int{stay(n)}
	for i := 0; i < len(out); i++ {
		for _, m := range makers {
			next := make([]int, n)
			for p, to := range m {
				next[p] = out[i][to]
			}
			if !met[code(next)] {
				met[code(next)] = true
				out = append(out, next)
			}
		}
	}
	return out
}
