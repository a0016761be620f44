package space

import (
	"slices"

	"parterre/api"
	"parterre/field"
)

// What bounds a room and its rows.
const (
	mostPlaces = 6
	mostSize   = 4096 // of a room: how many rows it has
	mostRows   = 12   // in one list
)

// room is all rows of some elements of a field. It has been looked at, so that of sums and products of elements there are no errors.
type room struct {
	api.Field
	places int
}

// open looks at a room first and at lists of its rows then.
func open(f api.Field, places int, lists ...[][]int) (room, api.Errno) {
	if e := field.Check(f); e != api.OK {
		return room{}, e
	}
	if places < 1 || places > mostPlaces {
		return room{}, api.ErrRange
	}
	r := room{f, places}
	if power(r.order(), places) > mostSize {
		return room{}, api.ErrFull
	}
	for _, rows := range lists {
		if e := r.checkRows(rows); e != api.OK {
			return room{}, e
		}
	}
	return r, api.OK
}

func (r room) order() int {
	return power(r.Prime, r.Degree)
}

func (r room) checkRows(rows [][]int) api.Errno {
	if len(rows) > mostRows {
		return api.ErrFull
	}
	for _, row := range rows {
		if e := r.checkRow(row); e != api.OK {
			return e
		}
	}
	return api.OK
}

func (r room) checkRow(row []int) api.Errno {
	if len(row) != r.places {
		return api.ErrShape
	}
	for _, x := range row {
		if x < 0 || x >= r.order() {
			return api.ErrRange
		}
	}
	return api.OK
}

func (r room) plus(a, b int) int {
	c, _ := field.Add(r.Field, a, b)
	return c
}

func (r room) times(a, b int) int {
	c, _ := field.Mul(r.Field, a, b)
	return c
}

// less gives what is to be added to a to come to 0: Prime - 1 stands for the polynomial that is -1.
func (r room) less(a int) int {
	return r.times(r.Prime-1, a)
}

// lead is the column of the first element that is not 0, of a row that has one.
func lead(row []int) int {
	return slices.IndexFunc(row, func(x int) bool { return x != 0 })
}

// basis goes column by column: what has been found leads ahead of it, and the rows behind have only 0 there.
func (r room) basis(rows [][]int) [][]int {
	left := make([][]int, len(rows))
	for i, row := range rows {
		left[i] = slices.Clone(row)
	}
	found := 0
	for column := range r.places {
		next := slices.IndexFunc(left[found:], func(row []int) bool { return row[column] != 0 })
		if next < 0 {
			continue
		}
		left[found], left[found+next] = left[found+next], left[found]
		r.clear(left, found, column)
		found++
	}
	return left[:found]
}

// clear makes a row, which is not 0 in a column, the only one that is not, and 1 there.
func (r room) clear(rows [][]int, number, column int) {
	own := rows[number]
	inverse, _ := field.Inv(r.Field, own[column])
	for c, x := range own {
		own[c] = r.times(inverse, x)
	}
	for i, row := range rows {
		if i == number {
			continue
		}
		factor := r.less(row[column])
		for c, x := range own {
			row[c] = r.plus(row[c], r.times(factor, x))
		}
	}
}

// normal has a row for each column in which no row of the basis leads: the elements there may be chosen, and all others follow.
func (r room) normal(rows [][]int) [][]int {
	basis := r.basis(rows)
	var out [][]int
columns:
	for column := range r.places {
		for _, row := range basis {
			if lead(row) == column {
				continue columns
			}
		}
		out = append(out, r.normalRow(basis, column))
	}
	return r.basis(out)
}

// normalRow has 1 in a column in which none leads, and 0 in the others of these: each row of the basis asks then for one element, where it leads.
func (r room) normalRow(basis [][]int, column int) []int {
	out := make([]int, r.places)
	out[column] = 1
	for _, row := range basis {
		out[lead(row)] = r.less(row[column])
	}
	return out
}

// has: a row that does not lie in the space would make its basis longer.
func (r room) has(rows [][]int, v []int) bool {
	return len(r.basis(slices.Concat(rows, [][]int{v}))) == len(r.basis(rows))
}
