package ruler

// gap is how two numbers of a row are apart: by how many places, and by how much.
type gap struct{ places, much int }

// byMuch is for marks, of which nobody asks where they stand.
func byMuch(_, much int) gap { return gap{much: much} }

// byBoth is for points of a plane, the place of a number being the one way, the number itself the other one.
func byBoth(places, much int) gap { return gap{places, much} }

// row is a list that grows and shrinks at its end, and knows how often each gap is there.
type row struct {
	numbers []int
	often   map[gap]int
	apart   func(places, much int) gap
}

func newRow(apart func(places, much int) gap) *row {
	return &row{often: map[gap]int{}, apart: apart}
}

// put adds a number at the end, if none of its gaps is there; those of one number are unlike, as no number stands twice.
func (r *row) put(x int) bool {
	for i, y := range r.numbers {
		if r.often[r.apart(len(r.numbers)-i, x-y)] > 0 {
			return false
		}
	}
	for i, y := range r.numbers {
		r.often[r.apart(len(r.numbers)-i, x-y)]++
	}
	r.numbers = append(r.numbers, x)
	return true
}

// drop takes the last number away, with its gaps.
func (r *row) drop() {
	last := len(r.numbers) - 1
	x := r.numbers[last]
	r.numbers = r.numbers[:last]
	for i, y := range r.numbers {
		r.often[r.apart(last-i, x-y)]--
	}
}

// allUnlike: are no two gaps of a list the same?
func allUnlike(list []int, apart func(places, much int) gap) bool {
	r := newRow(apart)
	for _, x := range list {
		if !r.put(x) {
			return false
		}
	}
	return true
}
