package strong

import "parterre/api"

// Places of a graph that is asked for by its numbers alone.
const (
	leastPlaces = 2
	mostPlaces  = 1000
)

// within: is each number one that may be? The places come first, since they bound the others.
func within(s api.Strong) bool {
	return s.Places >= leastPlaces && s.Places <= mostPlaces &&
		s.Degree >= 1 && s.Degree < s.Places &&
		s.Near >= 0 && s.Near <= s.Places &&
		s.Far >= 0 && s.Far <= s.Places
}

// counts: are those that are joined to a place joined to the rest as often as the rest to them?
func counts(s api.Strong) bool {
	return s.Degree*(s.Degree-s.Near-1) == (s.Places-s.Degree-1)*s.Far
}

// lean, divided by how far the two eigenvalues are apart, is by how many the lesser one is there more often.
func lean(s api.Strong) int {
	return 2*s.Degree + (s.Places-1)*(s.Near-s.Far)
}

// spread is the square of how far they are apart.
func spread(s api.Strong) int {
	return (s.Near-s.Far)*(s.Near-s.Far) + 4*(s.Degree-s.Far)
}

// halves: are both eigenvalues, be they whole numbers or not, there equally often?
func halves(s api.Strong) bool {
	return lean(s) == 0 && s.Places%2 == 1
}

// whole: is each of two eigenvalues, which are whole numbers, there some whole number of times?
func whole(s api.Strong) bool {
	r := root(spread(s))
	if r == 0 || lean(s)%r != 0 {
		return false
	}
	more, all := lean(s)/r, s.Places-1
	return (all-more)%2 == 0 && max(more, -more) <= all
}

// root is the number from 1 on of which this is the square, or 0.
func root(square int) int {
	for r := 1; r*r <= square; r++ {
		if r*r == square {
			return r
		}
	}
	return 0
}
