package subset_test

import (
	"fmt"
	"math/big"
	"slices"
	"strings"
	"testing"

	"parterre/api"
	"parterre/subset"
)

// The helpers here go by the words of the document, and by trying all, so that a fault of the package is no fault of theirs.

// numbers gives numbers below their bound that are strewn, and the same ones each time.
func numbers(start int) func(bound int) int {
	state := uint64(start)*0x9e3779b97f4a7c15 + 12345
	return func(bound int) int {
		state = state*6364136223846793005 + 1442695040888963407
		return int(state>>33) % bound
	}
}

// choose has in how many ways k of n are chosen.
func choose(n, k int) int {
	if k < 0 || k > n {
		return 0
	}
	return int(new(big.Int).Binomial(int64(n), int64(k)).Int64())
}

// isMore: are the ways to choose k of n more than that? It is asked in numbers without an end.
func isMore(n, k, most int) bool {
	return new(big.Int).Binomial(int64(n), int64(k)).Cmp(big.NewInt(int64(most))) > 0
}

// rising has all lists of k numbers below n that rise, in order.
func rising(n, k int) [][]int {
	out := [][]int{nil}
	for range k {
		var more [][]int
		for _, list := range out {
			from := 0
			if len(list) > 0 {
				from = list[len(list)-1] + 1
			}
			for x := from; x < n; x++ {
				more = append(more, append(slices.Clone(list), x))
			}
		}
		out = more
	}
	return out
}

// every has all lists of n numbers from low to high, in order.
func every(low, high, n int) [][]int {
	out := [][]int{nil}
	for range n {
		var more [][]int
		for _, list := range out {
			for x := low; x <= high; x++ {
				more = append(more, append(slices.Clone(list), x))
			}
		}
		out = more
	}
	return out
}

// strewn has a list of k numbers below n that rises, each as likely as another one.
func strewn(n, k int, next func(int) int) []int {
	var out []int
	for x := range n {
		if next(n-x) < k-len(out) {
			out = append(out, x)
		}
	}
	return out
}

// rankOf goes by the words of K1.
func rankOf(list []int) int {
	sum := 0
	for i, a := range list {
		sum += choose(a, i+1)
	}
	return sum
}

func doesRise(list []int) bool {
	for i := range list {
		for j := range i {
			if list[j] >= list[i] {
				return false
			}
		}
	}
	return true
}

// wrongRank goes by the words of K1.
func wrongRank(list []int) api.Errno {
	if len(list) > 30 {
		return api.ErrFull
	}
	for _, x := range list {
		if x < 0 || x > 60 {
			return api.ErrRange
		}
	}
	if !doesRise(list) {
		return api.ErrShape
	}
	return api.OK
}

// wrongFamily goes by the words of K2.
func wrongFamily(n int, sets []int) api.Errno {
	if n < 0 || n > 12 {
		return api.ErrRange
	}
	if len(sets) > 4096 {
		return api.ErrFull
	}
	for _, x := range sets {
		if x < 0 || x > 1<<n-1 {
			return api.ErrRange
		}
	}
	if !doesRise(sets) {
		return api.ErrShape
	}
	return api.OK
}

// things has which things are in a set.
func things(set int) []int {
	var out []int
	for i := 0; set > 0; i++ {
		if set%2 == 1 {
			out = append(out, i)
		}
		set /= 2
	}
	return out
}

// setOf has the set of some things.
func setOf(things []int) int {
	out := 0
	for _, i := range things {
		out += 1 << i
	}
	return out
}

// shadowOf goes by the words of K2.
func shadowOf(sets []int) []int {
	out := map[int]int{}
	for _, set := range sets {
		all := things(set)
		for at := range all {
			out[setOf(slices.Delete(slices.Clone(all), at, at+1))]++
		}
	}
	var list []int
	for set := range 1 << 12 {
		if out[set] > 0 {
			list = append(list, set)
		}
	}
	return list
}

// isApart goes by the words of K2.
func isApart(sets []int) bool {
	for at, a := range sets {
		for to, b := range sets {
			if at != to && liesWithin(a, b) {
				return false
			}
		}
	}
	return true
}

// liesWithin: is there no thing in a that is not in b?
func liesWithin(a, b int) bool { return a|b == b }

// doesCross goes by the words of K2.
func doesCross(sets []int) bool {
	for at, a := range sets {
		if a == 0 {
			return false
		}
		for _, b := range sets[:at] {
			if a&b == 0 {
				return false
			}
		}
	}
	return true
}

// family has the sets whose digit in which is 1.
func family(which int) []int { return things(which) }

// layer has all sets of k of n things, rising.
func layer(n, k int) []int {
	var out []int
	for set := range 1 << n {
		if len(things(set)) == k {
			out = append(out, set)
		}
	}
	return out
}

// pick has some many of the sets.
func pick(sets []int, many int, next func(int) int) []int {
	var out []int
	for _, at := range strewn(len(sets), many, next) {
		out = append(out, sets[at])
	}
	return out
}

// families has some of up to 12 things: strewn, of layers, all but a few, and those that are Apart or Cross.
func families(n int) [][]int {
	next := numbers(n)
	all := make([]int, 1<<n)
	for set := range all {
		all[set] = set
	}
	out := [][]int{nil, all, all[1:], all[:1], all[len(all)-1:]}
	for range 12 {
		out = append(out, pick(all, next(min(len(all), 30))+1, next), pick(all, next(len(all))+1, next))
		k := next(n + 1)
		sets := layer(n, k)
		out = append(out, sets, pick(sets, next(len(sets))+1, next))
		sets = append(layer(n, k), all[next(len(all))])
		slices.Sort(sets)
		out = append(out, slices.Compact(sets))
		thing := 1 << next(n+1)
		sets = slices.DeleteFunc(slices.Clone(all), func(set int) bool { return set&thing == 0 })
		out = append(out, sets, pick(sets, next(len(sets)+1), next))
		sets = slices.DeleteFunc(slices.Clone(all), func(set int) bool { return 2*len(things(set)) <= n })
		out = append(out, sets, pick(sets, next(len(sets)+1), next))
	}
	return out
}

// sums has all ways in which m is the sum of the ways to choose k of a, k - 1 of b, and so on, of numbers below top that fall, the last one being at least what is chosen of it.
func sums(m, k, top int) [][]int {
	if m == 0 {
		return [][]int{nil}
	}
	if k < 0 {
		return nil
	}
	var out [][]int
	for a := k; a < top && choose(a, k) <= m; a++ {
		for _, rest := range sums(m-choose(a, k), k-1, a) {
			out = append(out, append([]int{a}, rest...))
		}
	}
	return out
}

// cascadeOf has the lists of the fewest numbers of all such sums.
func cascadeOf(m, k int) [][]int {
	all := sums(m, k, m+k+1)
	few := len(all[0])
	for _, list := range all {
		few = min(few, len(list))
	}
	return slices.DeleteFunc(all, func(list []int) bool { return len(list) > few })
}

// leastOf goes by the words of K3.
func leastOf(list []int, k int) int {
	sum := 0
	for i, a := range list {
		sum += choose(a, k-1-i)
	}
	return sum
}

// isCascade goes by the words of K3: there is just one such list, as there is, of k numbers at most.
func isCascade(m, k int, list []int) bool {
	for i, a := range list {
		if i > 0 && a >= list[i-1] || i == len(list)-1 && a < k-i {
			return false
		}
		m -= choose(a, k-i)
	}
	return m == 0 && len(list) <= k
}

// wrongSum goes by the words of K3.
func wrongSum(m, k int) api.Errno {
	if m < 0 || k < 1 || k > 30 {
		return api.ErrRange
	}
	if m > 1000000000 {
		return api.ErrFull
	}
	return api.OK
}

// brackets writes a set as K4 says, and takes the pairs away, one by one: where they stood are dots.
func brackets(n, set int) string {
	text := ""
	for i := range n {
		if slices.Contains(things(set), i) {
			text += ")"
		} else {
			text += "("
		}
	}
	for {
		was := text
		for dots := range n {
			inside := strings.Repeat(".", dots)
			text = strings.ReplaceAll(text, "("+inside+")", "."+inside+".")
		}
		if text == was {
			return text
		}
	}
}

// chainsOf goes by the words of K4.
func chainsOf(n int) [][]int {
	var out [][]int
	for set := range 1 << n {
		text := brackets(n, set)
		if strings.Contains(text, ")") {
			continue
		}
		list := []int{set}
		for i, sign := range text {
			if sign == '(' {
				set += 1 << i
				list = append(list, set)
			}
		}
		out = append(out, list)
	}
	return out
}

// told is all that is asked of a list, as text.
func told(n int, list []int) string {
	rank, e := subset.Rank(list)
	e1 := subset.Check(n, list)
	shadow, e2 := subset.Shadow(n, list)
	apart, e3 := subset.Apart(n, list)
	cross, e4 := subset.Cross(n, list)
	return fmt.Sprint(rank, e, e1, shadow, e2, apart, e3, cross, e4)
}

// name has the call and what it was told; of long lists the beginning.
func name(call string, told ...any) string {
	out := call + " of"
	for _, one := range told {
		list, ok := one.([]int)
		if ok && len(list) > 40 {
			out += fmt.Sprint(" ", len(list), " numbers ", list[:20], " ..")
			continue
		}
		out += fmt.Sprint(" ", one)
	}
	return out
}

func wantError(t *testing.T, call string, e, want api.Errno) {
	t.Helper()
	if e != want {
		t.Errorf("%s: got error %d, want %d", call, e, want)
	}
}

func wantNumber(t *testing.T, call string, got int, e api.Errno, want int, wantError api.Errno) {
	t.Helper()
	if got != want || e != wantError {
		t.Errorf("%s: got %d, error %d; want %d, error %d", call, got, e, want, wantError)
	}
}

func wantTruth(t *testing.T, call string, got bool, e api.Errno, want bool, wantError api.Errno) {
	t.Helper()
	if got != want || e != wantError {
		t.Errorf("%s: got %t, error %d; want %t, error %d", call, got, e, want, wantError)
	}
}

func wantList(t *testing.T, call string, got []int, e api.Errno, want []int, wantError api.Errno) {
	t.Helper()
	if !slices.Equal(got, want) || e != wantError {
		t.Errorf("%s: got %s, error %d; want %s, error %d", call, name("", got), e, name("", want), wantError)
	}
}

func wantLists(t *testing.T, call string, got [][]int, e api.Errno, want [][]int, wantError api.Errno) {
	t.Helper()
	if !slices.EqualFunc(got, want, slices.Equal[[]int]) || e != wantError {
		t.Errorf("%s: got %v, error %d; want %v, error %d", call, got, e, want, wantError)
	}
}
