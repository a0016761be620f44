package word

import "parterre/api"

const (
	letters     = 10                        // the numbers of a word are below it
	mostDigits  = 12                        // of the numbers of Gray
	mostCounted = 60                        // numbers of a word that Primes counts
	mostLists   = 1_000_000_000_000_000_000 // k to the power of n, for Primes
	mostRound   = 12                        // numbers of a list that stands in Bruijn
)

// check tells what is wrong with a word.
func check(word []int) api.Errno {
	if len(word) > api.MaxWord {
		return api.ErrFull
	}
	if !areBelow(letters, word) {
		return api.ErrRange
	}
	return api.OK
}

func areBelow(k int, word []int) bool {
	for _, x := range word {
		if x < 0 || x >= k {
			return false
		}
	}
	return true
}

// isBase: may words be of the numbers below k?
func isBase(k int) bool { return k >= 1 && k <= letters }

// isWithin: is k to the power of n at most that? It is asked by dividing, as the power may be above all numbers.
func isWithin(k, n, most int) bool {
	for range n {
		most /= k
	}
	return most > 0
}
