package triple

import "parterre/api"

// thirds has for each two points of a system the third one of their block.
func thirds(d api.Design) [][]int {
	out := make([][]int, d.Points)
	for x := range out {
		out[x] = make([]int, d.Points)
	}
	for _, b := range d.Blocks {
		for i, x := range b {
			y, z := b[(i+1)%3], b[(i+2)%3]
			out[x][y], out[y][x] = z, z
		}
	}
	return out
}

// passes meets each set of four 24 times: from each of its six points, along each of the four points that lie in one of its blocks with that one.
func passes(points int, third [][]int) int {
	met := 0
	for top := range points {
		for x := range points {
			for y := range points {
				if top == x || top == y || x == y || third[top][x] == y {
					continue
				}
				if third[x][y] == third[third[top][x]][third[top][y]] {
					met++
				}
			}
		}
	}
	return met / 24
}
