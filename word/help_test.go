package word_test

import (
	"fmt"
	"math/big"
	"slices"
	"testing"

	"parterre/api"
	"parterre/word"
)

// The helpers here go by the words of the document, and by trying all, so that a fault of the package is no fault of theirs.

// numbers gives numbers below their bound that are strewn, and the same ones each time.
func numbers(start int) func(bound int) int {
	state := uint64(start)*0x9e3779b97f4a7c15 + 12345
	return func(bound int) int {
		state = state*6364136223846793005 + 1442695040888963407
		return int(state>>33) % bound
	}
}

// every has all words of n numbers below k, in order.
func every(k, n int) [][]int {
	out := [][]int{nil}
	for range n {
		var more [][]int
		for _, list := range out {
			for x := range k {
				more = append(more, append(slices.Clone(list), x))
			}
		}
		out = more
	}
	return out
}

// strewn has a word of n numbers below k.
func strewn(k, n int, next func(int) int) []int {
	out := make([]int, n)
	for i := range out {
		out[i] = next(k)
	}
	return out
}

// grayOf goes by the words of W1: it writes the digits of i, the lowest first, and turns those over that have a 1 next above.
func grayOf(i int) int {
	var digits [20]int
	for at := range digits {
		digits[at] = i / power(2, at) % 2
	}
	out := 0
	for at := range 19 {
		digit := digits[at]
		if digits[at+1] == 1 {
			digit = 1 - digit
		}
		out += digit * power(2, at)
	}
	return out
}

func power(k, n int) int {
	out := 1
	for range n {
		out *= k
	}
	return out
}

// isAhead goes by the words of W2.
func isAhead(a, b []int) bool {
	for i := range a {
		if i == len(b) {
			return false
		}
		if a[i] != b[i] {
			return a[i] < b[i]
		}
	}
	return len(a) < len(b)
}

// isLyndon goes by the words of W2: it holds a word against each of its ends.
func isLyndon(word []int) bool {
	for from := 1; from < len(word); from++ {
		if !isAhead(word, word[from:]) {
			return false
		}
	}
	return len(word) > 0
}

// waysOf has the lengths in all ways in which a word is Lyndon words, one behind the other, none of them ahead of the next one.
func waysOf(word, before []int) [][]int {
	if len(word) == 0 {
		return [][]int{nil}
	}
	var out [][]int
	for n := 1; n <= len(word); n++ {
		if !isLyndon(word[:n]) || before != nil && isAhead(before, word[:n]) {
			continue
		}
		for _, rest := range waysOf(word[n:], word[:n]) {
			out = append(out, append([]int{n}, rest...))
		}
	}
	return out
}

// cutAt has the parts of a word of these lengths, as far as there are such.
func cutAt(word, lengths []int) [][]int {
	var out [][]int
	for _, n := range lengths {
		if n < 1 || n > len(word) {
			return nil
		}
		out = append(out, word[:n])
		word = word[n:]
	}
	if len(word) > 0 {
		return nil
	}
	return out
}

// lyndons has all Lyndon words of up to n numbers below k, in order.
func lyndons(k, n int) [][]int {
	var out [][]int
	for long := 1; long <= n; long++ {
		for _, word := range every(k, long) {
			if isLyndon(word) {
				out = append(out, word)
			}
		}
	}
	slices.SortFunc(out, func(a, b []int) int {
		switch {
		case isAhead(a, b):
			return -1
		case isAhead(b, a):
			return 1
		}
		return 0
	})
	return out
}

// mobius is 0 if a square but 1 divides n; otherwise 1 or -1, as an even or odd number of primes divides it.
func mobius(n int) int64 {
	out := int64(1)
	for p := 2; p <= n; p++ {
		if n%p == 0 {
			n /= p
			out = -out
			if n%p == 0 {
				return 0
			}
		}
	}
	return out
}

// primesOf sums up by what divides n (Moebius), in numbers without an end.
func primesOf(k, n int) int {
	sum := new(big.Int)
	for d := 1; d <= n; d++ {
		if n%d == 0 {
			part := new(big.Int).Exp(big.NewInt(int64(k)), big.NewInt(int64(n/d)), nil)
			sum.Add(sum, part.Mul(part, big.NewInt(mobius(d))))
		}
	}
	return int(sum.Div(sum, big.NewInt(int64(n))).Int64())
}

// isMore: is k to the power of n more than that?
func isMore(k, n, most int) bool {
	return new(big.Int).Exp(big.NewInt(int64(k)), big.NewInt(int64(n)), nil).Cmp(big.NewInt(int64(most))) > 0
}

// standsOnce: does each list of n numbers below k stand just once in the list, read round?
func standsOnce(k, n int, list []int) bool {
	seen := map[int]int{}
	for at := range list {
		number := 0
		for i := range n {
			x := list[(at+i)%len(list)]
			if x < 0 || x >= k {
				return false
			}
			number = number*k + x
		}
		seen[number]++
	}
	return len(seen) == power(k, n) && len(list) == power(k, n)
}

// firstRound goes along lists of n - 1 numbers, from the one of all 0, by a number each, no list of n numbers twice. It takes the least number of those from which one can go on through all that is left; that can be done (Euler) as long as all that is left hangs together, and hangs on where one is: for into each list as many numbers lead as out of it.
func firstRound(k, n int) []int {
	size := power(k, n)
	places := size / k
	left := make([]bool, size)
	for i := range left {
		left[i] = true
	}
	out := make([]int, n-1, size+n)
	place := 0
	for many := size; many > 0; many-- {
		for x := range k {
			next := (place*k + x) % places
			if !left[place*k+x] {
				continue
			}
			left[place*k+x] = false
			if comesTo(k, places, next, left) == many-1 {
				place = next
				out = append(out, x)
				break
			}
			left[place*k+x] = true
		}
	}
	return out[:size]
}

// comesTo counts the lists of n numbers that are left where one comes to, whatever way.
func comesTo(k, places, from int, left []bool) int {
	come := make([]bool, places)
	come[from] = true
	way := []int{from}
	many := 0
	for at := 0; at < len(way); at++ {
		for x := range k {
			if !left[way[at]*k+x] {
				continue
			}
			many++
			if next := (way[at]*k + x) % places; !come[next] {
				come[next] = true
				way = append(way, next)
			}
		}
	}
	return many
}

// wrongWord goes by the words of W2.
func wrongWord(word []int) api.Errno {
	if len(word) > 4096 {
		return api.ErrFull
	}
	for _, x := range word {
		if x < 0 || x > 9 {
			return api.ErrRange
		}
	}
	return api.OK
}

// wrongNext goes by the words of W3, but for the last: whether there is one.
func wrongNext(k int, word []int) api.Errno {
	if k < 1 || k > 10 {
		return api.ErrRange
	}
	if e := wrongWord(word); e != api.OK {
		return e
	}
	for _, x := range word {
		if x >= k {
			return api.ErrRange
		}
	}
	if !isLyndon(word) {
		return api.ErrShape
	}
	return api.OK
}

// told is all that is asked of a word, as text.
func told(k int, list []int) string {
	lyndon, e := word.Lyndon(list)
	factors, e1 := word.Factors(list)
	next, e2 := word.Next(k, list)
	return fmt.Sprint(lyndon, e, factors, e1, next, e2)
}

// name has the call and what it was told; of long words the beginning.
func name(call string, told ...any) string {
	out := call + " of"
	for _, one := range told {
		list, ok := one.([]int)
		if ok && len(list) > 40 {
			out += fmt.Sprint(" ", len(list), " numbers ", list[:20], " ..")
			continue
		}
		out += fmt.Sprint(" ", one)
	}
	return out
}

func wantNumber(t *testing.T, call string, got int, e api.Errno, want int, wantError api.Errno) {
	t.Helper()
	if got != want || e != wantError {
		t.Errorf("%s: got %d, error %d; want %d, error %d", call, got, e, want, wantError)
	}
}

func wantTruth(t *testing.T, call string, got bool, e api.Errno, want bool, wantError api.Errno) {
	t.Helper()
	if got != want || e != wantError {
		t.Errorf("%s: got %t, error %d; want %t, error %d", call, got, e, want, wantError)
	}
}

func wantList(t *testing.T, call string, got []int, e api.Errno, want []int, wantError api.Errno) {
	t.Helper()
	if !slices.Equal(got, want) || e != wantError {
		t.Errorf("%s: got %s, error %d; want %s, error %d", call, name("", got), e, name("", want), wantError)
	}
}
