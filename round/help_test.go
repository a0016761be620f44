package round_test

import (
	"fmt"
	"slices"
	"testing"

	"parterre/api"
)

// The helpers here go by the words of the document, by other rules and by trying all, so that a fault of the package is no fault of theirs.

// numbers gives numbers below their bound that are strewn, and the same ones each time.
func numbers(start int) func(bound int) int {
	state := uint64(start)*0x9e3779b97f4a7c15 + 12345
	return func(bound int) int {
		state = state*6364136223846793005 + 1442695040888963407
		return int(state>>33) % bound
	}
}

// strewnOrder has the numbers below n in some order.
func strewnOrder(n int, next func(int) int) []int {
	out := make([]int, n)
	for i := range n {
		j := next(i + 1)
		out[i], out[j] = out[j], i
	}
	return out
}

// cloned has rows of their own.
func cloned(rows [][]int) [][]int {
	var out [][]int
	for _, row := range rows {
		out = append(out, slices.Clone(row))
	}
	return out
}

// instead has another number in one place of one row.
func instead(rows [][]int, row, place, x int) [][]int {
	out := cloned(rows)
	out[row][place] = x
	return out
}

// lists has all lists of so many numbers from low to high.
func lists(low, high, long int) [][]int {
	out := [][]int{nil}
	for range long {
		var more [][]int
		for _, list := range out {
			for x := low; x <= high; x++ {
				more = append(more, append(slices.Clone(list), x))
			}
		}
		out = more
	}
	return out
}

// cut makes rows of so many numbers of a list.
func cut(list []int, long int) [][]int {
	var out [][]int
	for i := 0; i < len(list); i += long {
		out = append(out, list[i:i+long])
	}
	return out
}

// wrongWith goes by the words of R1.
func wrongWith(n int, rounds [][]int) api.Errno {
	if n < 2 || n > 16 || n%2 != 0 {
		return api.ErrRange
	}
	if len(rounds) > n-1 {
		return api.ErrFull
	}
	for _, round := range rounds {
		if e := wrongWithRound(n, round); e != api.OK {
			return e
		}
	}
	for team := range n {
		for i := range rounds {
			for j := range i {
				if rounds[i][team] == rounds[j][team] {
					return api.ErrTwice
				}
			}
		}
	}
	return api.OK
}

func wrongWithRound(n int, round []int) api.Errno {
	if len(round) != n {
		return api.ErrShape
	}
	for _, team := range round {
		if team < 0 || team > n-1 {
			return api.ErrRange
		}
	}
	for team := range n {
		if round[team] == team || round[round[team]] != team {
			return api.ErrNone
		}
	}
	return api.OK
}

// perfectOf goes by the words of R2: in each two rounds, who can be come to from each team?
func perfectOf(n int, rounds [][]int) bool {
	if len(rounds) != n-1 {
		return false
	}
	for i := range rounds {
		for j := range i {
			for team := range n {
				if len(comeTo(team, rounds[i], rounds[j])) != n {
					return false
				}
			}
		}
	}
	return true
}

// comeTo has the teams that one comes to by those who meet in the rounds.
func comeTo(team int, rounds ...[]int) []int {
	out := []int{team}
	for at := 0; at < len(out); at++ {
		for _, round := range rounds {
			if next := round[out[at]]; !slices.Contains(out, next) {
				out = append(out, next)
			}
		}
	}
	return out
}

// roomsOf goes by the words of R2.
func roomsOf(n int, a, b [][]int) bool {
	if len(a) != n-1 || len(b) != n-1 {
		return false
	}
	for _, one := range a {
		for _, other := range b {
			both := 0
			for team := range n {
				if one[team] == other[team] {
					both++
				}
			}
			if both > 2 {
				return false
			}
		}
	}
	return true
}

// circleOf goes by sums: in round r those meet whose sum is twice r, and who would meet itself meets the last team.
func circleOf(n int) [][]int {
	v := n - 1
	var out [][]int
	for r := range v {
		round := make([]int, n)
		for team := range v {
			round[team] = (2*r - team + v) % v
		}
		round[r], round[v] = v, r
		out = append(out, round)
	}
	return out
}

// wrongStarter goes by the words of R3.
func wrongStarter(v int, pairs [][]int) api.Errno {
	if v < 3 || v > 15 || v%2 != 1 {
		return api.ErrRange
	}
	if len(pairs) != (v-1)/2 {
		return api.ErrShape
	}
	for _, two := range pairs {
		if len(two) != 2 {
			return api.ErrShape
		}
		for _, x := range two {
			if x < 1 || x > v-1 {
				return api.ErrRange
			}
		}
	}
	for x := 1; x < v; x++ {
		stands, differs := 0, 0
		for _, two := range pairs {
			for i := range 2 {
				if two[i] == x {
					stands++
				}
				if (two[1-i]+x)%v == two[i] {
					differs++
				}
			}
		}
		if stands != 1 || differs != 1 {
			return api.ErrTwice
		}
	}
	return api.OK
}

// sumsOf tells of a starter whether a sum is 0, and whether two sums are alike.
func sumsOf(v int, pairs [][]int) (zero, alike bool) {
	for i, one := range pairs {
		if one[0]+one[1] == v {
			zero = true
		}
		for _, other := range pairs[:i] {
			if (one[0]+one[1]-other[0]-other[1])%v == 0 {
				alike = true
			}
		}
	}
	return zero, alike
}

func strongOf(v int, pairs [][]int) bool {
	zero, alike := sumsOf(v, pairs)
	return !zero && !alike
}

// developOf goes team by team: whoever a team less r is paired with in the starter, r added, it meets.
func developOf(v int, pairs [][]int) [][]int {
	with := make([]int, v)
	for _, two := range pairs {
		with[two[0]], with[two[1]] = two[1], two[0]
	}
	var out [][]int
	for r := range v {
		var round []int
		for team := range v {
			if team == r {
				round = append(round, v)
			} else {
				round = append(round, (with[(team+v-r)%v]+r)%v)
			}
		}
		out = append(out, append(round, r))
	}
	return out
}

// oppositeOf has each number less than v by itself.
func oppositeOf(v int, pairs [][]int) [][]int {
	var out [][]int
	for _, two := range pairs {
		out = append(out, []int{v - two[0], v - two[1]})
	}
	return out
}

// starters has all starters modulo v: the least number that is left is paired with each other one that is, and no difference comes again.
func starters(v int) [][][]int {
	var out [][][]int
	var fill func(left []int, taken map[int]int, pairs [][]int)
	fill = func(left []int, taken map[int]int, pairs [][]int) {
		if len(left) == 0 {
			out = append(out, cloned(pairs))
			return
		}
		for i := 1; i < len(left); i++ {
			apart := min(left[i]-left[0], v-left[i]+left[0])
			if taken[apart] > 0 {
				continue
			}
			taken[apart]++
			fill(slices.Concat(left[1:i], left[i+1:]), taken, append(slices.Clone(pairs), []int{left[0], left[i]}))
			taken[apart]--
		}
	}
	var all []int
	for x := 1; x < v; x++ {
		all = append(all, x)
	}
	fill(all, map[int]int{}, nil)
	return out
}

// strewnStarter has the pairs, and the numbers of each, in another order.
func strewnStarter(pairs [][]int, next func(int) int) [][]int {
	var out [][]int
	for _, i := range strewnOrder(len(pairs), next) {
		side := next(2)
		out = append(out, []int{pairs[i][side], pairs[i][1-side]})
	}
	return out
}

// everyRound has all rounds of n teams.
func everyRound(n int) [][]int {
	var out [][]int
	var fill func(round []int)
	fill = func(round []int) {
		first := slices.Index(round, -1)
		if first < 0 {
			out = append(out, round)
			return
		}
		for other := first + 1; other < n; other++ {
			if round[other] == -1 {
				more := slices.Clone(round)
				more[first], more[other] = other, first
				fill(more)
			}
		}
	}
	fill(slices.Repeat([]int{-1}, n))
	return out
}

// everyComplete has all complete rounds of n teams in which the first team meets the others in their order.
func everyComplete(n int) [][][]int {
	all := everyRound(n)
	var out [][][]int
	var fill func(rounds [][]int)
	fill = func(rounds [][]int) {
		if len(rounds) == n-1 {
			out = append(out, cloned(rounds))
			return
		}
		for _, round := range all {
			if round[0] == len(rounds)+1 && apart(round, rounds) {
				fill(append(slices.Clone(rounds), round))
			}
		}
	}
	fill(nil)
	return out
}

// apart: does no team meet one that it meets in some other round?
func apart(round []int, rounds [][]int) bool {
	for _, other := range rounds {
		for team := range round {
			if round[team] == other[team] {
				return false
			}
		}
	}
	return true
}

// exclusive has n teams, a power of 2: in one round all meet those whose bits are other ones by the same bits.
func exclusive(n int) [][]int {
	var out [][]int
	for r := 1; r < n; r++ {
		var round []int
		for team := range n {
			round = append(round, team^r)
		}
		out = append(out, round)
	}
	return out
}

// anderson has twice p teams, p an odd number: in rounds of one kind those meet whose sum is an even number, in those of the other kind an even team meets the one that is an odd number further on.
func anderson(p int) [][]int {
	n := 2 * p
	var out [][]int
	for i := range n {
		round := make([]int, n)
		switch {
		case i == p:
			continue
		case i%2 == 0:
			for team := range n {
				round[team] = (i - team + n) % n
			}
			half := i / 2
			round[half], round[half+p] = half+p, half
		default:
			for team := 0; team < n; team += 2 {
				other := (team + i) % n
				round[team], round[other] = other, team
			}
		}
		out = append(out, round)
	}
	return out
}

// renamed has rounds in another order, of teams that have other names.
func renamed(rounds [][]int, order, names []int) [][]int {
	out := make([][]int, len(rounds))
	for i, round := range rounds {
		out[order[i]] = make([]int, len(round))
		for team, other := range round {
			out[order[i]][names[team]] = names[other]
		}
	}
	return out
}

func otherwise(n int, rounds [][]int, next func(int) int) [][]int {
	return renamed(rounds, strewnOrder(len(rounds), next), strewnOrder(n, next))
}

// known are rounds, and whether they are Perfect.
type known struct {
	name    string
	n       int
	rounds  [][]int
	perfect bool
}

// books has complete rounds: Circle is perfect, if n - 1 is a prime or 1 (Kotzig), and Anderson's, if p is a prime.
func books() []known {
	primes := []int{1, 3, 5, 7, 11, 13}
	var out []known
	for n := 2; n <= 16; n += 2 {
		out = append(out, known{fmt.Sprint("circle of ", n), n, circleOf(n), slices.Contains(primes, n-1)})
	}
	for _, n := range []int{2, 4, 8, 16} {
		out = append(out, known{fmt.Sprint("bits of ", n), n, exclusive(n), n < 8})
	}
	for _, p := range []int{3, 5, 7} {
		out = append(out, known{fmt.Sprint("Anderson's of ", p), 2 * p, anderson(p), true})
	}
	return out
}

// some are good rounds, complete and not, of all sizes.
func some() []known {
	var out []known
	for start, k := range books() {
		next := numbers(start)
		for range 6 {
			out = append(out, known{k.name + ", otherwise", k.n, otherwise(k.n, k.rounds, next), k.perfect})
		}
		for range 4 {
			rounds := otherwise(k.n, k.rounds, next)
			out = append(out, known{k.name + ", less some rounds", k.n, rounds[:next(k.n-1)], false})
		}
		out = append(out, known{k.name + ", less one round", k.n, k.rounds[1:], false}, known{k.name + ", one round", k.n, k.rounds[:1], k.n == 2})
	}
	return append(out, books()...)
}

func name(call string, told ...any) string {
	return call + " of " + fmt.Sprint(told...)
}

func wantError(t *testing.T, call string, e, want api.Errno) {
	t.Helper()
	if e != want {
		t.Errorf("%s: got error %d, want %d", call, e, want)
	}
}

func wantTruth(t *testing.T, call string, got bool, e api.Errno, want bool, wantError api.Errno) {
	t.Helper()
	if got != want || e != wantError {
		t.Errorf("%s: got %t, error %d; want %t, error %d", call, got, e, want, wantError)
	}
}

// wantRows has no list beside an error.
func wantRows(t *testing.T, call string, got [][]int, e api.Errno, want [][]int, wantError api.Errno) {
	t.Helper()
	if !slices.EqualFunc(got, want, slices.Equal[[]int]) || e != wantError {
		t.Errorf("%s: got %v, error %d; want %v, error %d", call, got, e, want, wantError)
	}
}
