package tour_test

import (
	"fmt"
	"slices"
	"testing"

	"parterre/api"
	"parterre/tour"
)

// The helpers here go by the words of the document, and by trying all, so that a fault of the package is no fault of theirs.

// numbers gives numbers below their bound that are strewn, and the same ones each time.
func numbers(start int) func(bound int) int {
	state := uint64(start)*0x9e3779b97f4a7c15 + 12345
	return func(bound int) int {
		state = state*6364136223846793005 + 1442695040888963407
		return int(state>>33) % bound
	}
}

// strewnOrder has the numbers below n in some order.
func strewnOrder(n int, next func(int) int) []int {
	out := make([]int, n)
	for i := range n {
		j := next(i + 1)
		out[i], out[j] = out[j], i
	}
	return out
}

// made asks of each two, the lesser number first, whether he beats the other.
func made(n int, wins func(i, j int) bool) api.Square {
	out := api.Square{Side: n, Cells: make([]int, n*n)}
	for j := range n {
		for i := range j {
			if wins(i, j) {
				out.Cells[i*n+j] = 1
			} else {
				out.Cells[j*n+i] = 1
			}
		}
	}
	return out
}

// numbered has a tournament for each number below 2 to the power of the pairs.
func numbered(n, number int) api.Square {
	return made(n, func(i, j int) bool { return number>>(j*(j-1)/2+i)&1 == 1 })
}

// every has all tournaments of n players.
func every(n int) []api.Square {
	var out []api.Square
	for number := range 1 << (n * (n - 1) / 2) {
		out = append(out, numbered(n, number))
	}
	return out
}

func strewn(n int, next func(int) int) api.Square {
	return made(n, func(i, j int) bool { return next(2) == 1 })
}

// falling has each beat those behind him.
func falling(n int) api.Square { return made(n, func(i, j int) bool { return true }) }

// rising has each beat those ahead of him.
func rising(n int) api.Square { return made(n, func(i, j int) bool { return false }) }

// circle of an odd number of players: each beats the half that comes next.
func circle(n int) api.Square {
	return made(n, func(i, j int) bool { return j-i <= n/2 })
}

// squares of 7 players: each beats those who are a square further on.
func squares() api.Square {
	return made(7, func(i, j int) bool { return slices.Contains([]int{1, 2, 4}, j-i) })
}

// stacked has all of the first tournament beat all of the second.
func stacked(a, b api.Square) api.Square {
	return made(a.Side+b.Side, func(i, j int) bool {
		switch {
		case j < a.Side:
			return a.Cells[i*a.Side+j] == 1
		case i >= a.Side:
			return b.Cells[(i-a.Side)*b.Side+j-a.Side] == 1
		}
		return true
	})
}

// renamed has players of other names.
func renamed(t api.Square, names []int) api.Square {
	out := api.Square{Side: t.Side, Cells: make([]int, len(t.Cells))}
	for i := range t.Side {
		for j := range t.Side {
			out.Cells[names[i]*t.Side+names[j]] = t.Cells[i*t.Side+j]
		}
	}
	return out
}

// turned has each beat those who beat him.
func turned(t api.Square) api.Square {
	out := api.Square{Side: t.Side, Cells: make([]int, len(t.Cells))}
	for i := range t.Side {
		for j := range t.Side {
			out.Cells[j*t.Side+i] = t.Cells[i*t.Side+j]
		}
	}
	return out
}

// instead has another number in one cell.
func instead(t api.Square, place, x int) api.Square {
	cells := slices.Clone(t.Cells)
	cells[place] = x
	return api.Square{Side: t.Side, Cells: cells}
}

// some are tournaments of all sizes: the least, those of books, stacked ones, and strewn ones, under other names.
func some() []api.Square {
	var out []api.Square
	for n := 1; n <= 9; n++ {
		next := numbers(n)
		out = append(out, falling(n), rising(n), strewn(n, next), strewn(n, next))
		if n%2 == 1 {
			out = append(out, circle(n))
		}
		for first := 1; first < n; first++ {
			t := stacked(strewn(first, next), strewn(n-first, next))
			out = append(out, t, renamed(t, strewnOrder(n, next)))
		}
	}
	three := circle(3)
	return append(out, squares(), stacked(squares(), falling(2)), stacked(falling(2), squares()), stacked(stacked(three, three), three), stacked(circle(5), three))
}

// wrongWith goes by the words of T1.
func wrongWith(t api.Square) api.Errno {
	if t.Side < 1 || t.Side > 9 {
		return api.ErrRange
	}
	if len(t.Cells) != t.Side*t.Side {
		return api.ErrShape
	}
	for _, cell := range t.Cells {
		if cell < 0 || cell > 1 {
			return api.ErrRange
		}
	}
	for i := range t.Side {
		if t.Cells[i*t.Side+i] == 1 {
			return api.ErrNone
		}
		for j := range t.Side {
			if i != j && t.Cells[i*t.Side+j]+t.Cells[j*t.Side+i] != 1 {
				return api.ErrNone
			}
		}
	}
	return api.OK
}

// beaten has whom each beats.
func beaten(t api.Square) [][]int {
	out := make([][]int, t.Side)
	for place, cell := range t.Cells {
		if cell == 1 {
			out[place/t.Side] = append(out[place/t.Side], place%t.Side)
		}
	}
	return out
}

func scoresOf(t api.Square) []int {
	var out []int
	for _, whom := range beaten(t) {
		out = append(out, len(whom))
	}
	return out
}

// kingsOf goes to whom each beats, and to whom these beat.
func kingsOf(t api.Square) []int {
	whom := beaten(t)
	var out []int
	for player := range t.Side {
		come := map[int]int{player: 0}
		for _, one := range whom[player] {
			come[one]++
			for _, other := range whom[one] {
				come[other]++
			}
		}
		if len(come) == t.Side {
			out = append(out, player)
		}
	}
	return out
}

// orders has all lists of the numbers below n, in order.
func orders(n int) [][]int {
	out := [][]int{nil}
	for range n {
		var more [][]int
		for _, list := range out {
			for x := range n {
				if !slices.Contains(list, x) {
					more = append(more, append(slices.Clone(list), x))
				}
			}
		}
		out = more
	}
	return out
}

// lists has of all lists those in which each but the last beats the next, and of these the ones in which the last beats the first, or is the first.
func lists(t api.Square, orders [][]int) (paths, cycles [][]int) {
	for _, list := range orders {
		if !walks(t, list) {
			continue
		}
		paths = append(paths, list)
		if t.Side == 1 || t.Cells[list[t.Side-1]*t.Side+list[0]] == 1 {
			cycles = append(cycles, list)
		}
	}
	return paths, cycles
}

func walks(t api.Square, list []int) bool {
	for i := 1; i < len(list); i++ {
		if t.Cells[list[i-1]*t.Side+list[i]] == 0 {
			return false
		}
	}
	return true
}

// ringsOf looks at each three, whether each of them beats one of the others.
func ringsOf(t api.Square) int {
	many := 0
	for set := range 1 << t.Side {
		var three []int
		for player := range t.Side {
			if set>>player&1 == 1 {
				three = append(three, player)
			}
		}
		if len(three) == 3 && eachBeatsOne(t, three) {
			many++
		}
	}
	return many
}

func eachBeatsOne(t api.Square, set []int) bool {
	for _, player := range set {
		beats := 0
		for _, other := range set {
			beats += t.Cells[player*t.Side+other]
		}
		if beats == 0 {
			return false
		}
	}
	return true
}

// partsOf has for each player all to whom one comes, and from whom one comes back; the more one comes to, the further ahead.
func partsOf(t api.Square) [][]int {
	var come [][]int
	for player := range t.Side {
		come = append(come, comeTo(t, player))
	}
	var out [][]int
	for many := t.Side; many > 0; many-- {
		for player := range t.Side {
			if len(come[player]) != many {
				continue
			}
			var part []int
			for _, other := range come[player] {
				if slices.Contains(come[other], player) {
					part = append(part, other)
				}
			}
			if part[0] == player {
				out = append(out, part)
			}
		}
	}
	return out
}

// comeTo has to whom one comes by steps, he among them, rising.
func comeTo(t api.Square, player int) []int {
	whom := beaten(t)
	out := []int{player}
	for at := 0; at < len(out); at++ {
		for _, next := range whom[out[at]] {
			if !slices.Contains(out, next) {
				out = append(out, next)
			}
		}
	}
	slices.Sort(out)
	return out
}

// scoreLists has all lists of scores, rising, that tournaments of n players have: of those of one player less each, one more who beats some, and is beaten by the others.
func scoreLists(n int) map[string][]int {
	if n == 1 {
		return map[string][]int{fmt.Sprint([]int{0}): {0}}
	}
	out := map[string][]int{}
	for _, less := range scoreLists(n - 1) {
		for set := range 1 << (n - 1) {
			list := slices.Clone(less)
			won := 0
			for i := range list {
				if set>>i&1 == 1 {
					won++
				} else {
					list[i]++
				}
			}
			list = append(list, won)
			slices.Sort(list)
			out[fmt.Sprint(list)] = list
		}
	}
	return out
}

// risingLists has all lists of so many numbers, each from the one ahead to high.
func risingLists(low, high, long int) [][]int {
	if long == 0 {
		return [][]int{nil}
	}
	var out [][]int
	for x := low; x <= high; x++ {
		for _, rest := range risingLists(x, high, long-1) {
			out = append(out, append([]int{x}, rest...))
		}
	}
	return out
}

func cloned(rows [][]int) [][]int {
	var out [][]int
	for _, row := range rows {
		out = append(out, slices.Clone(row))
	}
	return out
}

// told is all that is asked of a tournament, as text.
func told(t api.Square) string {
	out := fmt.Sprint(tour.Check(t))
	for _, ask := range []func(api.Square) ([]int, api.Errno){tour.Scores, tour.Kings, tour.Path, tour.Cycle} {
		list, e := ask(t)
		out += fmt.Sprint(" ", list, e)
	}
	paths, e := tour.Paths(t)
	rings, e1 := tour.Rings(t)
	parts, e2 := tour.Parts(t)
	return out + fmt.Sprint(" ", paths, e, rings, e1, parts, e2)
}

func name(call string, told ...any) string {
	return call + " of " + fmt.Sprint(told...)
}

func wantError(t *testing.T, call string, e, want api.Errno) {
	t.Helper()
	if e != want {
		t.Errorf("%s: got error %d, want %d", call, e, want)
	}
}

func wantNumber(t *testing.T, call string, got int, e api.Errno, want int, wantError api.Errno) {
	t.Helper()
	if got != want || e != wantError {
		t.Errorf("%s: got %d, error %d; want %d, error %d", call, got, e, want, wantError)
	}
}

func wantTruth(t *testing.T, call string, got bool, e api.Errno, want bool, wantError api.Errno) {
	t.Helper()
	if got != want || e != wantError {
		t.Errorf("%s: got %t, error %d; want %t, error %d", call, got, e, want, wantError)
	}
}

func wantList(t *testing.T, call string, got []int, e api.Errno, want []int, wantError api.Errno) {
	t.Helper()
	if !slices.Equal(got, want) || e != wantError {
		t.Errorf("%s: got %v, error %d; want %v, error %d", call, got, e, want, wantError)
	}
}

func wantLists(t *testing.T, call string, got [][]int, e api.Errno, want [][]int, wantError api.Errno) {
	t.Helper()
	if !slices.EqualFunc(got, want, slices.Equal[[]int]) || e != wantError {
		t.Errorf("%s: got %v, error %d; want %v, error %d", call, got, e, want, wantError)
	}
}
