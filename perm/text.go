package perm

import (
	"strconv"
	"strings"
)

func write(a []int) string {
	var out strings.Builder
	for _, cycle := range cycles(a) {
		if len(cycle) > 1 {
			out.WriteString("(" + join(cycle) + ")")
		}
	}
	if out.Len() == 0 {
		return "()"
	}
	return out.String()
}

func join(points []int) string {
	texts := make([]string, len(points))
	for i, p := range points {
		texts[i] = strconv.Itoa(p)
	}
	return strings.Join(texts, " ")
}

// read holds what write makes against the text, so that it may take the text lightly: whatever else looks like cycles falls there.
func read(text string, n int) ([]int, bool) {
	// Two digits a point, and for blanks and brackets two bytes a point, are the most that write makes, but for an empty pair of brackets.
	if len(text) > 4*n+2 {
		return nil, false
	}
	out := make([]int, n)
	for i := range out {
		out[i] = i
	}
	for _, part := range strings.Split(text, ")") {
		cycle, ok := split(strings.TrimPrefix(part, "("), n)
		if !ok {
			return nil, false
		}
		for i, at := range cycle {
			out[at] = cycle[(i+1)%len(cycle)]
		}
	}
	if twice(out) || write(out) != text {
		return nil, false
	}
	return out, true
}

// split is what leads back from join, of n points.
func split(text string, n int) ([]int, bool) {
	var out []int
	for _, word := range strings.Fields(text) {
		p, err := strconv.Atoi(word)
		if err != nil || p < 0 || p >= n {
			return nil, false
		}
		out = append(out, p)
	}
	return out, true
}
