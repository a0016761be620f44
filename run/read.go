package run

import (
	"strconv"
	"strings"
)

// greatest is the last NUMBER of nine digits.
const greatest = 999_999_999

// words are those of a line behind its first, of each kind in their order.
type words struct {
	number []int
	list   [][]int
	rows   [][]int // no line has two ROWS
}

// read takes a line apart. What it cannot be is a panic of what reads its words, which ends here: nothing is asked of a line of which any word is wrong.
func read(line string) (r row, w words, ok bool) {
	defer func() {
		ok = recover() == nil
	}()
	texts := strings.Split(line, " ")
	r = rowOf(texts[0])
	return r, take(r.form, texts[1:]), true
}

// take reads words as the form of their row says.
func take(form string, texts []string) words {
	kinds := strings.Fields(form)
	if len(texts) != len(kinds) {
		panic("not as many words as: " + form)
	}
	var out words
	for i, kind := range kinds {
		switch kind {
		case "NUMBER":
			out.number = append(out.number, number(texts[i]))
		case "NUMBERS":
			out.list = append(out.list, numbers(texts[i]))
		case "ROWS":
			out.rows = rows(texts[i])
		}
	}
	return out
}

// number holds what strconv writes against the text, so that no other spelling is read.
func number(text string) int {
	n, err := strconv.Atoi(text)
	if err != nil || n < 0 || n > greatest || strconv.Itoa(n) != text {
		panic("no NUMBER: " + text)
	}
	return n
}

func numbers(text string) []int {
	if text == nothing {
		return nil
	}
	return some(text)
}

func rows(text string) [][]int {
	if text == nothing {
		return nil
	}
	var out [][]int
	for part := range strings.SplitSeq(text, betweenRows) {
		out = append(out, some(part))
	}
	return out
}

// some reads NUMBERS of which there is one at least.
func some(text string) []int {
	var out []int
	for part := range strings.SplitSeq(text, betweenNumbers) {
		out = append(out, number(part))
	}
	return out
}
