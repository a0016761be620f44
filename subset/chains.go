package subset

// chains begin at the sets in which each bracket `)` has one `(` ahead to go with; what is left of those are the things to put in.
func chains(n int) [][]int {
	var out [][]int
next:
	for set := range 1 << n {
		var alone []int
		for thing := range n {
			if set>>thing&1 == 0 {
				alone = append(alone, thing)
				continue
			}
			if len(alone) == 0 {
				continue next
			}
			alone = alone[:len(alone)-1]
		}
		out = append(out, chain(set, alone))
	}
	return out
}

// chain puts things into a set, one by one.
func chain(set int, things []int) []int {
	out := []int{set}
	for _, thing := range things {
		set |= 1 << thing
		out = append(out, set)
	}
	return out
}
