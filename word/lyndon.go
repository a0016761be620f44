package word

// parted has the lengths of the Lyndon words that a word is made of, none ahead of the next (Duval). From start up to at there is a Lyndon word as often as it fits, and a beginning of it; it is as long as back is behind at.
func parted(word []int) []int {
	var lengths []int
	var start, back, at int
next:
	if start == len(word) {
		return lengths
	}
	back, at = start, start+1
further:
	if at < len(word) && word[at] == word[back] {
		back, at = back+1, at+1
		goto further
	}
	if at < len(word) && word[at] > word[back] {
		back, at = start, at+1 // a greater number makes one Lyndon word of all up to it
		goto further
	}
cut:
	lengths = append(lengths, at-back)
	start += at - back
	if start <= back {
		goto cut
	}
	goto next
}

func isLyndon(word []int) bool { return len(parted(word)) == 1 }

// following is the next Lyndon word of up to n numbers below k, and empty if there is none (Duval). A Lyndon word over and over, cut behind a number that is then raised, is a Lyndon word; the last number that can be raised is taken, so that none is passed over.
func following(k, n int, word []int) []int {
	next := make([]int, n)
	for i := range next {
		next[i] = word[i%len(word)]
	}
	for len(next) > 0 && next[len(next)-1] == k-1 {
		next = next[:len(next)-1]
	}
	if len(next) > 0 {
		next[len(next)-1]++
	}
	return next
}

// primes are what is left of all lists of n numbers below k, when those that are a shorter Lyndon word over and over, begun at any of its numbers, are taken away; n of those left are one Lyndon word.
func primes(k, n int) int {
	left := power(k, n)
	for d := 1; d < n; d++ {
		if n%d == 0 {
			left -= d * primes(k, d)
		}
	}
	return left / n
}

func power(k, n int) int {
	out := 1
	for range n {
		out *= k
	}
	return out
}

// bruijn is all Lyndon words whose lengths divide n, in order (Fredricksen, Maiorana).
func bruijn(k, n int) []int {
	var out []int
	for word := []int{0}; len(word) > 0; word = following(k, n, word) {
		if n%len(word) == 0 {
			out = append(out, word...)
		}
	}
	return out
}
