package run

import (
	"slices"

	"parterre/api"
	"parterre/array"
	"parterre/boole"
	"parterre/count"
	"parterre/design"
	"parterre/differ"
	"parterre/field"
	"parterre/group"
	"parterre/latin"
	"parterre/perm"
	"parterre/recur"
	"parterre/round"
	"parterre/ruler"
	"parterre/space"
	"parterre/subset"
	"parterre/tour"
	"parterre/triple"
	"parterre/word"
)

// row of the document's table: the words that its lines have behind the first, and what is asked of them.
type row struct {
	form string
	ask  func(w words) any
}

// rowOf has the row of a line's first word.
func rowOf(first string) row {
	switch first {
	case "field":
		return row{"NUMBER NUMBER", low}
	case "times":
		return row{"NUMBER NUMBER NUMBER NUMBER", times}
	case "row":
		return row{"NUMBER NUMBERS NUMBERS NUMBER", func(w words) any { return one(recur.Run(w.number[0], w.list[0], w.list[1], w.number[1])) }}
	case "least":
		return row{"NUMBER NUMBERS", func(w words) any { return two(recur.Least(w.number[0], w.list[0])) }}
	case "cycles":
		return row{"NUMBERS", func(w words) any { return one(perm.Cycles(w.list[0])) }}
	case "order":
		return row{"NUMBER ROWS", func(w words) any { return one(group.Order(w.number[0], w.rows)) }}
	case "beads":
		return row{"NUMBER NUMBER", func(w words) any { return one(count.Beads(w.number[0], w.number[1])) }}
	case "extend":
		return row{"NUMBER ROWS", extend}
	case "level":
		return row{"NUMBER ROWS NUMBER", level}
	case "triples":
		return row{"NUMBER", triples}
	case "differ":
		return row{"NUMBER NUMBERS", differences}
	case "ruler":
		return row{"NUMBER", func(w words) any { return one(ruler.Best(w.number[0])) }}
	case "gauss":
		return row{"NUMBER NUMBER NUMBER", func(w words) any { return one(space.Gauss(w.number[0], w.number[1], w.number[2])) }}
	case "bent":
		return row{"NUMBERS", func(w words) any { return one(boole.Bent(w.list[0])) }}
	case "rao":
		return row{"NUMBER NUMBER NUMBER", func(w words) any { return one(array.Rao(w.number[0], w.number[1], w.number[2])) }}
	case "circle":
		return row{"NUMBER", func(w words) any { return one(round.Circle(w.number[0])) }}
	case "could":
		return row{"NUMBERS", func(w words) any { return one(tour.Could(w.list[0])) }}
	case "bruijn":
		return row{"NUMBER NUMBER", func(w words) any { return one(word.Bruijn(w.number[0], w.number[1])) }}
	case "cascade":
		return row{"NUMBER NUMBER", cascade}
	}
	panic("no row: " + first)
}

// one is what a call answered, or its error.
func one(value any, e api.Errno) any {
	if e != api.OK {
		return e
	}
	return value
}

func two(first, second any, e api.Errno) any { return one(pair{first, second}, e) }

func low(w words) any {
	f, e := field.Least(w.number[0], w.number[1])
	return one(f.Low, e)
}

func times(w words) any {
	f, e := field.Least(w.number[0], w.number[1])
	if e != api.OK {
		return e
	}
	return one(field.Mul(f, w.number[2], w.number[3]))
}

func extend(w words) any {
	s, e := latin.Extend(w.number[0], w.rows)
	if e != api.OK {
		return e
	}
	return slices.Collect(slices.Chunk(s.Cells, s.Side))
}

func level(w words) any {
	return two(design.Level(api.Design{Points: w.number[0], Blocks: w.rows}, w.number[1]))
}

func triples(w words) any {
	d, e := triple.Make(w.number[0])
	return one(d.Blocks, e)
}

func differences(w words) any {
	often, e := differ.Level(w.number[0], w.list[0])
	if e != api.OK {
		return e
	}
	multipliers, e := differ.Multipliers(w.number[0], w.list[0])
	return two(often, multipliers, e)
}

func cascade(w words) any {
	falling, e := subset.Cascade(w.number[0], w.number[1])
	if e != api.OK {
		return e
	}
	shadow, e := subset.Least(w.number[0], w.number[1])
	return two(falling, shadow, e)
}
