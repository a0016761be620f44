package run_test

import (
	"fmt"
	"regexp"
	"strconv"
	"strings"
	"testing"

	"parterre/api"
	"parterre/array"
	"parterre/boole"
	"parterre/count"
	"parterre/design"
	"parterre/differ"
	"parterre/field"
	"parterre/group"
	"parterre/latin"
	"parterre/perm"
	"parterre/recur"
	"parterre/round"
	"parterre/ruler"
	"parterre/run"
	"parterre/space"
	"parterre/subset"
	"parterre/tour"
	"parterre/triple"
	"parterre/word"
)

// The helpers here go by the words of the document: a line is read by patterns, so that a fault of the package is no fault of theirs.

// numbers gives numbers below their bound that are strewn, and the same ones each time.
func numbers(start int) func(bound int) int {
	state := uint64(start)*0x9e3779b97f4a7c15 + 12345
	return func(bound int) int {
		state = state*6364136223846793005 + 1442695040888963407
		return int(state>>33) % bound
	}
}

// entry is a row of the table of X1: a line as it stands there, and what its answer is made of.
type entry struct {
	line string
	ask  func(w asked) (any, api.Errno)
}

// asked are the words of a line by their places, the first being numbered 0.
type asked struct{ texts []string }

func (w asked) number(i int) int { return toNumber(w.texts[i]) }
func (w asked) list(i int) []int { return toList(w.texts[i]) }
func (w asked) rows(i int) [][]int {
	out := [][]int{}
	if w.texts[i] != "-" {
		for _, text := range strings.Split(w.texts[i], "/") {
			out = append(out, toList(text))
		}
	}
	return out
}

func toNumber(text string) int {
	n, err := strconv.Atoi(text)
	if err != nil {
		panic(err)
	}
	return n
}

func toList(text string) []int {
	out := []int{}
	if text != "-" {
		for _, digits := range strings.Split(text, ",") {
			out = append(out, toNumber(digits))
		}
	}
	return out
}

// entries is the table of X1.
func entries() []entry {
	return []entry{
		{"field NUMBER NUMBER", func(w asked) (any, api.Errno) {
			f, e := field.Least(w.number(1), w.number(2))
			return f.Low, e
		}},
		{"times NUMBER NUMBER NUMBER NUMBER", func(w asked) (any, api.Errno) {
			f, e := field.Least(w.number(1), w.number(2))
			if e != api.OK {
				return nil, e
			}
			return field.Mul(f, w.number(3), w.number(4))
		}},
		{"row NUMBER NUMBERS NUMBERS NUMBER", func(w asked) (any, api.Errno) {
			return recur.Run(w.number(1), w.list(2), w.list(3), w.number(4))
		}},
		{"least NUMBER NUMBERS", func(w asked) (any, api.Errno) {
			length, taps, e := recur.Least(w.number(1), w.list(2))
			return []any{length, taps}, e
		}},
		{"cycles NUMBERS", func(w asked) (any, api.Errno) { return perm.Cycles(w.list(1)) }},
		{"order NUMBER ROWS", func(w asked) (any, api.Errno) { return group.Order(w.number(1), w.rows(2)) }},
		{"beads NUMBER NUMBER", func(w asked) (any, api.Errno) { return count.Beads(w.number(1), w.number(2)) }},
		{"extend NUMBER ROWS", func(w asked) (any, api.Errno) {
			s, e := latin.Extend(w.number(1), w.rows(2))
			out := [][]int{}
			for i := range s.Side {
				out = append(out, s.Cells[i*s.Side:(i+1)*s.Side])
			}
			return out, e
		}},
		{"level NUMBER ROWS NUMBER", func(w asked) (any, api.Errno) {
			k, lambda, e := design.Level(api.Design{Points: w.number(1), Blocks: w.rows(2)}, w.number(3))
			return []any{k, lambda}, e
		}},
		{"triples NUMBER", func(w asked) (any, api.Errno) {
			d, e := triple.Make(w.number(1))
			return d.Blocks, e
		}},
		{"differ NUMBER NUMBERS", func(w asked) (any, api.Errno) {
			often, e := differ.Level(w.number(1), w.list(2))
			multipliers, _ := differ.Multipliers(w.number(1), w.list(2))
			return []any{often, multipliers}, e
		}},
		{"ruler NUMBER", func(w asked) (any, api.Errno) { return ruler.Best(w.number(1)) }},
		{"gauss NUMBER NUMBER NUMBER", func(w asked) (any, api.Errno) { return space.Gauss(w.number(1), w.number(2), w.number(3)) }},
		{"bent NUMBERS", func(w asked) (any, api.Errno) { return boole.Bent(w.list(1)) }},
		{"rao NUMBER NUMBER NUMBER", func(w asked) (any, api.Errno) { return array.Rao(w.number(1), w.number(2), w.number(3)) }},
		{"circle NUMBER", func(w asked) (any, api.Errno) { return round.Circle(w.number(1)) }},
		{"could NUMBERS", func(w asked) (any, api.Errno) { return tour.Could(w.list(1)) }},
		{"bruijn NUMBER NUMBER", func(w asked) (any, api.Errno) { return word.Bruijn(w.number(1), w.number(2)) }},
		{"cascade NUMBER NUMBER", func(w asked) (any, api.Errno) {
			falling, e := subset.Cascade(w.number(1), w.number(2))
			shadow, _ := subset.Least(w.number(1), w.number(2))
			return []any{falling, shadow}, e
		}},
	}
}

// What X1 says of NUMBER, NUMBERS and ROWS.
const (
	numberForm = "(?:0|[1-9][0-9]{0,8})"
	listForm   = numberForm + "(?:," + numberForm + ")*"
	rowsForm   = listForm + "(?:/" + listForm + ")*"
)

// patterns has of each kind of word the texts that are it.
var patterns = map[string]*regexp.Regexp{
	"NUMBER":  regexp.MustCompile(`\A` + numberForm + `\z`),
	"NUMBERS": regexp.MustCompile(`\A(?:-|` + listForm + `)\z`),
	"ROWS":    regexp.MustCompile(`\A(?:-|` + rowsForm + `)\z`),
}

var table = entries()

// fits: is a line as the row of the table says?
func fits(row, line string) bool {
	kinds, texts := strings.Split(row, " "), strings.Split(line, " ")
	if len(texts) != len(kinds) || texts[0] != kinds[0] {
		return false
	}
	for i, text := range texts[1:] {
		if !patterns[kinds[i+1]].MatchString(text) {
			return false
		}
	}
	return true
}

// answerTo is the answer to one line, as X1 says it.
func answerTo(line string) string {
	for _, row := range table {
		if !fits(row.line, line) {
			continue
		}
		value, e := row.ask(asked{strings.Split(line, " ")})
		if e != api.OK {
			return []string{"OK", "ErrRange", "ErrShape", "ErrFull", "ErrNone", "ErrSyntax", "ErrTwice"}[e]
		}
		return told(value)
	}
	return "bad"
}

// told writes a value as X1 says it.
func told(value any) string {
	switch x := value.(type) {
	case bool:
		return map[bool]string{true: "yes", false: "no"}[x]
	case []int:
		if len(x) == 0 {
			return "-"
		}
		return strings.ReplaceAll(strings.Trim(fmt.Sprint(x), "[]"), " ", ",")
	case [][]int:
		out := ""
		for _, list := range x {
			out += "/" + strings.Trim(told(list), "-")
		}
		if len(x) == 0 {
			return "-"
		}
		return out[1:]
	case []any:
		return told(x[0]) + " " + told(x[1])
	}
	return fmt.Sprint(value)
}

// wantAnswer holds the answer to one line.
func wantAnswer(t *testing.T, line, want string) {
	t.Helper()
	if got := run.Run(line + "\n"); got != want+"\n" {
		t.Errorf("%s: got %s, want %s", short(line), short(got), short(want))
	}
}

// wantText holds the answers to a text, to the byte.
func wantText(t *testing.T, text, want string) {
	t.Helper()
	if got := run.Run(text); got != want {
		t.Errorf("%s: got %s, want %s", short(text), short(got), short(want))
	}
}

// short keeps what is told of a failure short.
func short(text string) string {
	const most = 120
	if len(text) <= most {
		return strconv.Quote(text)
	}
	return fmt.Sprintf("%q and %d bytes more", text[:most], len(text)-most)
}

// strewn has a line of a row of the table: its numbers are mostly such that there is an answer.
func strewn(row string, next func(int) int) string {
	kinds := strings.Split(row, " ")
	out := kinds[0]
	for _, kind := range kinds[1:] {
		switch kind {
		case "NUMBER":
			out += " " + strewnNumber(next)
		case "NUMBERS":
			out += " " + strewnList(next)
		case "ROWS":
			out += " " + strewnRows(next)
		}
	}
	return out
}

func strewnNumber(next func(int) int) string {
	most := []int{4, 4, 8, 8, 14, 70, 1000, 1_000_000_000}
	return strconv.Itoa(next(most[next(len(most))]))
}

// strewnList is either a permutation, or a list that rises, or one of numbers below a few.
func strewnList(next func(int) int) string {
	n := next(7)
	out := []int{}
	switch kind := next(3); kind {
	case 0:
		for x := range n {
			at := next(x + 1)
			out = append(out[:at], append([]int{x}, out[at:]...)...)
		}
	case 1:
		for x := range 7 {
			if next(2) == 0 {
				out = append(out, x)
			}
		}
	case 2:
		for range 1 << next(4) {
			out = append(out, next(2+n/3))
		}
	}
	return told(out)
}

// strewnRows has mostly rows that are as long as each other.
func strewnRows(next func(int) int) string {
	var parts []string
	for range next(4) {
		if part := strewnList(next); part != "-" && (len(parts) == 0 || len(part) == len(parts[0]) || next(8) == 0) {
			parts = append(parts, part)
		}
	}
	if len(parts) == 0 {
		return "-"
	}
	return strings.Join(parts, "/")
}
