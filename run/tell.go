package run

import (
	"strconv"
	"strings"

	"parterre/api"
)

// How lists are read and told.
const (
	nothing        = "-"
	betweenNumbers = ","
	betweenRows    = "/"
)

// names are those of the errors, by their numbers.
var names = strings.Fields("OK ErrRange ErrShape ErrFull ErrNone ErrSyntax ErrTwice")

// pair is what is told with a blank between.
type pair struct{ first, second any }

// tell writes what a row was answered.
func tell(value any) string {
	switch x := value.(type) {
	case api.Errno:
		return names[x]
	case bool:
		return truth(x)
	case int:
		return strconv.Itoa(x)
	case []int:
		return list(x)
	case [][]int:
		return lists(x)
	case pair:
		return tell(x.first) + " " + tell(x.second)
	case string:
		return x
	}
	return ""
}

func truth(is bool) string {
	if is {
		return "yes"
	}
	return "no"
}

func list(of []int) string {
	if len(of) == 0 {
		return nothing
	}
	return joined(of)
}

func lists(of [][]int) string {
	if len(of) == 0 {
		return nothing
	}
	texts := make([]string, len(of))
	for i, one := range of {
		texts[i] = joined(one)
	}
	return strings.Join(texts, betweenRows)
}

// joined tells a list that is empty as nothing at all.
func joined(of []int) string {
	texts := make([]string, len(of))
	for i, x := range of {
		texts[i] = strconv.Itoa(x)
	}
	return strings.Join(texts, betweenNumbers)
}
