package recur_test

import (
	"slices"
	"testing"

	"parterre/api"
	"parterre/recur"
)

// The helpers here go by the words of the document, and by other ways than the package, so that a fault of the one is no fault of the other.

func primes() []int { return []int{2, 3, 5, 7} }

func power(p, k int) int {
	out := 1
	for range k {
		out *= p
	}
	return out
}

// lists gives all lists of k numbers below p, in the order of the numbers whose digits they are, the first one the lowest.
func lists(p, k int) [][]int {
	out := [][]int{nil}
	for range k {
		var longer [][]int
		for last := range p {
			for _, l := range out {
				longer = append(longer, append(slices.Clone(l), last))
			}
		}
		out = longer
	}
	return out
}

// plainRow goes by R1.
func plainRow(p int, taps, seed []int, n int) []int {
	out := slices.Clone(seed)
	for i := len(seed); i < n; i++ {
		sum := 0
		for j, tap := range taps {
			sum += tap * out[i-1-j]
		}
		out = append(out, sum%p)
	}
	return out[:n]
}

// plainPeriod holds windows against each other, the first one first and the nearest one first.
func plainPeriod(p int, taps, seed []int) (ahead, period int) {
	k, states := len(taps), power(p, len(taps))
	row := plainRow(p, taps, seed, 2*states+2*k)
	for i := range states {
		for d := 1; d <= states; d++ {
			if slices.Equal(row[i:i+k], row[i+d:i+d+k]) {
				return i, d
			}
		}
	}
	return -1, -1
}

// makes tells whether taps make each number of a row from the one numbered as many as they are on.
func makes(p int, taps, row []int) bool {
	for i := len(taps); i < len(row); i++ {
		sum := 0
		for j, tap := range taps {
			sum += tap * row[i-1-j]
		}
		if sum%p != row[i] {
			return false
		}
	}
	return true
}

// tried is R3 by trying all taps of each length.
func tried(p int, row []int) (int, []int) {
	for l := 0; ; l++ {
		var found [][]int
		for _, taps := range lists(p, l) {
			if makes(p, taps, row) {
				found = append(found, taps)
			}
		}
		if len(found) == 1 {
			return l, found[0]
		}
		if len(found) > 1 {
			return l, nil
		}
	}
}

// solved is R3 by the equations that the taps of each length are to meet.
func solved(p int, row []int) (int, []int) {
	for l := 0; ; l++ {
		var lines [][]int
		for i := l; i < len(row); i++ {
			line := slices.Clone(row[i-l : i])
			slices.Reverse(line)
			lines = append(lines, append(line, row[i]))
		}
		if taps, free, ok := solve(p, l, lines); ok {
			if free {
				taps = nil
			}
			return l, taps
		}
	}
}

// solve gives what the l unknowns are (what is to come of a line stands last in it), whether some are free, and whether there is anything.
func solve(p, l int, lines [][]int) (x []int, free, ok bool) {
	done := 0
	for column := range l {
		at := slices.IndexFunc(lines[done:], func(line []int) bool { return line[column] != 0 })
		if at < 0 {
			free = true
			continue
		}
		lines[done], lines[done+at] = lines[done+at], lines[done]
		scale(p, lines[done], column)
		for i, line := range lines {
			if i != done {
				clearOut(p, line, lines[done], column)
			}
		}
		done++
	}
	for _, line := range lines[done:] {
		if line[l] != 0 {
			return nil, free, false
		}
	}
	for _, line := range lines[:done] {
		x = append(x, line[l])
	}
	return x, free, true
}

// scale makes a line's number in that column 1.
func scale(p int, line []int, column int) {
	for factor := range p {
		if line[column]*factor%p == 1 {
			for i := range line {
				line[i] = line[i] * factor % p
			}
			return
		}
	}
}

func clearOut(p int, line, by []int, column int) {
	factor := p - line[column]
	for i := range line {
		line[i] = (line[i] + factor*by[i]) % p
	}
}

// mixed gives numbers below p that look like none: the same ones for the same start.
func mixed(p, start, n int) []int {
	out := make([]int, n)
	x := uint64(start)*2654435761 + 12345
	for i := range out {
		x = x*6364136223846793005 + 1442695040888963407
		out[i] = int(x>>33) % p
	}
	return out
}

// taken is a recurrence with a seed.
type taken struct {
	p          int
	taps, seed []int
}

// small gives all recurrences of so few windows, with all seeds.
func small(states int) []taken {
	var out []taken
	for _, p := range primes() {
		for k := 1; k <= api.MaxTaps && power(p, k) <= states; k++ {
			all := lists(p, k)
			for _, taps := range all {
				for _, seed := range all {
					out = append(out, taken{p, taps, seed})
				}
			}
		}
	}
	return out
}

// run is Run where nothing may be wrong.
func run(t *testing.T, p int, taps, seed []int, n int) []int {
	t.Helper()
	out, e := recur.Run(p, taps, seed, n)
	if e != api.OK || len(out) != n {
		t.Fatalf("Run(%d, %v, %v, %d): %d numbers, error %d", p, taps, seed, n, len(out), e)
	}
	return out
}

func wantPeriod(t *testing.T, c taken, ahead, period int) {
	t.Helper()
	a, b, e := recur.Period(c.p, c.taps, c.seed)
	if a != ahead || b != period || e != api.OK {
		t.Errorf("Period(%d, %v, %v): got %d, %d, error %d; want %d, %d", c.p, c.taps, c.seed, a, b, e, ahead, period)
	}
}

func wantLeast(t *testing.T, p int, row []int, l int, taps []int) {
	t.Helper()
	a, b, e := recur.Least(p, row)
	if a != l || !slices.Equal(b, taps) || e != api.OK {
		t.Errorf("Least(%d, %v): got %d, %v, error %d; want %d, %v", p, row, a, b, e, l, taps)
	}
}
