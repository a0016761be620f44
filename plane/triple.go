package plane

import (
	"parterre/api"
	"parterre/field"
)

// triple of elements of a field: a point of its plane, or a block.
type triple [3]int

// lead is the first element that is not 0, or 0, if there is none.
func (t triple) lead() int {
	for _, x := range t {
		if x != 0 {
			return x
		}
	}
	return 0
}

// triples gives those of a field of order q that lead with 1, in order: each other one, but that of 0 alone, is some element times one of these.
func triples(q int) []triple {
	var out []triple
	for x := range q {
		for y := range q {
			for z := range q {
				if t := (triple{x, y, z}); t.lead() == 1 {
					out = append(out, t)
				}
			}
		}
	}
	return out
}

// fieldOrder is that of a field that has been looked at, so that it cannot wrap round.
func fieldOrder(f api.Field) int {
	q := 1
	for range f.Degree {
		q *= f.Prime
	}
	return q
}

// within: does a point lie in a block? Of a field that has been looked at and its elements there are no errors.
func within(f api.Field, point, block triple) bool {
	sum := 0
	for i, x := range point {
		term, _ := field.Mul(f, x, block[i])
		sum, _ = field.Add(f, sum, term)
	}
	return sum == 0
}

func made(f api.Field) api.Design {
	all := triples(fieldOrder(f))
	d := api.Design{Points: len(all)}
	for _, block := range all {
		var points []int
		for i, point := range all {
			if within(f, point, block) {
				points = append(points, i)
			}
		}
		d.Blocks = append(d.Blocks, points)
	}
	return d
}

func conic(f api.Field) []int {
	var out []int
	for i, point := range triples(fieldOrder(f)) {
		square, _ := field.Mul(f, point[1], point[1])
		product, _ := field.Mul(f, point[0], point[2])
		if square == product {
			out = append(out, i)
		}
	}
	return out
}
