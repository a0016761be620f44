package boole

import (
	"math/bits"

	"parterre/api"
)

// width is how many bits number the places of a list.
func width(list []int) (int, api.Errno) {
	many := uint(len(list))
	if bits.OnesCount(many) != 1 || many > 1<<api.MaxBits {
		return 0, api.ErrShape
	}
	return bits.TrailingZeros(many), api.OK
}

func within(list []int, least, greatest int) bool {
	for _, x := range list {
		if x < least || x > greatest {
			return false
		}
	}
	return true
}

// weight is how many bits are 1.
func weight(x int) int {
	return bits.OnesCount(uint(x))
}

// folded takes what each number begins as and lets pair work, bit by bit, on each two of these whose places part in this bit alone. So each place comes to a sum over all of them, after as many rounds as there are bits.
func folded[T any](list []int, begin func(int) T, pair func(low, high T) (T, T)) []T {
	out := make([]T, len(list))
	for x, number := range list {
		out[x] = begin(number)
	}
	for bit := 1; bit < len(out); bit *= 2 {
		for x := range out {
			if x&bit == 0 {
				out[x], out[x|bit] = pair(out[x], out[x|bit])
			}
		}
	}
	return out
}

// products tells which ones the sum has that the function is.
func products(table []int) []bool {
	return folded(table, isOne, addLow)
}

func spectrum(table []int) []int {
	return folded(table, sign, plusAndMinus)
}

func isOne(x int) bool {
	return x == 1
}

// sign is 1 for 0, and -1 for 1.
func sign(x int) int {
	return 1 - 2*x
}

func itself(x int) int {
	return x
}

// addLow adds modulo 2: the products without the bit are still there where it is 1, so that those with it make up just what has changed.
func addLow(low, high bool) (bool, bool) {
	return low, low != high
}

func plusAndMinus(low, high int) (int, int) {
	return low + high, low - high
}

// sizes are the least and the greatest one of some numbers, whatever their signs.
func sizes(list []int) (int, int) {
	least, greatest := len(list), 0 // no number of a spectrum is of a greater size
	for _, x := range list {
		size := max(x, -x)
		least, greatest = min(least, size), max(greatest, size)
	}
	return least, greatest
}
