package recur

// slip is a recurrence that makes a row up to a place: there it is amiss by a number, which is not 0.
type slip struct {
	taps     []int
	at, miss int
}

// shortest mends the taps wherever they slip, with the help of the last ones that were too short (Berlekamp and Massey).
func shortest(p int, seen []int) []int {
	var taps []int
	help := slip{at: -1, miss: 1} // ahead of the row, as if a 1 stood there that no taps make
	for i := range seen {
		miss := missing(p, taps, seen, i)
		if miss == 0 {
			continue
		}
		mended := mend(p, slip{taps, i, miss}, help)
		if len(mended) > len(taps) {
			help = slip{taps, i, miss}
		}
		taps = mended
	}
	return taps
}

// missing tells by how much the number at a place is above what the taps make there. There are never more taps than numbers ahead of it: what slips at one place is mended by at most as many taps as there are numbers up to it.
func missing(p int, taps, seen []int, at int) int {
	sum := seen[at]
	for j, tap := range taps {
		sum += (p - tap) * seen[at-1-j]
	}
	return sum % p
}

// mend gives taps that make what those of now make, and the number at which they slip too.
// What help misses at its place, and nowhere ahead of it, is moved to that number, and taken so often that it fills what is missing there.
func mend(p int, now, help slip) []int {
	shift := now.at - help.at
	often := now.miss * inverse(p, help.miss) % p
	out := make([]int, max(len(now.taps), shift+len(help.taps)))
	copy(out, now.taps)
	out[shift-1] = (out[shift-1] + often) % p
	for j, tap := range help.taps {
		out[shift+j] = (out[shift+j] + often*(p-tap)) % p
	}
	return out
}

func inverse(p, a int) int {
	for b := 1; b < p; b++ {
		if a*b%p == 1 {
			return b
		}
	}
	return 0 // not reached: a is not 0, and p is a prime
}
