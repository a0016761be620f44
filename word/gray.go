package word

func gray(n int) []int {
	out := make([]int, 1<<n)
	for i := range out {
		out[i] = i ^ i>>1
	}
	return out
}

// place has each digit of x turned over as often as there are digits 1 above it in x: in this way gray's turning over is undone from the top on.
func place(x int) int {
	i := 0
	for ; x > 0; x >>= 1 {
		i ^= x
	}
	return i
}
