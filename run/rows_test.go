package run_test

import (
	"strconv"
	"strings"
	"testing"
)

const seven = "0,1,3/1,2,4/2,3,5/3,4,6/0,4,5/1,5,6/0,2,6" // seven points, each two in one block

// answers has of each row of the table what is answered, by the chapters and by hand, and each error that its calls can tell.
var answers = [][2]string{
	{"field 2 3", "1,1,0"},
	{"field 3 2", "1,0"},
	{"field 61 1", "0"},
	{"field 4 1", "ErrRange"},
	{"field 2 0", "ErrRange"},
	{"field 2 7", "ErrRange"},
	{"times 2 3 4 2", "3"},
	{"times 2 3 0 5", "0"},
	{"times 7 1 3 4", "5"},
	{"times 4 1 0 0", "ErrRange"},
	{"times 2 3 8 1", "ErrRange"},
	{"times 2 3 1 8", "ErrRange"},
	{"row 2 1,1 0,1 6", "0,1,1,0,1,1"},
	{"row 3 1,2 0,1 5", "0,1,1,0,2"},
	{"row 3 0,1 1,2 1", "1"},
	{"row 3 0,1 1,2 0", "-"},
	{"row 4 1 1 1", "ErrRange"},
	{"row 2 - - 1", "ErrShape"},
	{"row 2 1,1 0 1", "ErrShape"},
	{"row 2 2 0 1", "ErrRange"},
	{"row 2 1 2 1", "ErrRange"},
	{"row 2 1 1 5001", "ErrRange"},
	{"least 2 0,1,1,0,1,1", "2 1,1"},
	{"least 3 1,2,1,2", "1 2"},
	{"least 2 0,0,1", "3 -"},
	{"least 2 0,0", "0 -"},
	{"least 2 -", "0 -"},
	{"least 4 0", "ErrRange"},
	{"least 2 0,2", "ErrRange"},
	{"least 2 " + strings.Repeat("1,", 60) + "1", "ErrFull"},
	{"cycles 1,2,0,4,3", "(0 1 2)(3 4)"},
	{"cycles 0,1", "()"},
	{"cycles -", "()"},
	{"cycles 11,1,2,3,4,5,6,7,8,9,10,0", "(0 11)"},
	{"cycles 0,1,2,3,4,5,6,7,8,9,10,11,12", "ErrFull"},
	{"cycles 0,2", "ErrRange"},
	{"cycles 1,1", "ErrTwice"},
	{"order 4 1,2,3,0/2,1,0,3", "8"},
	{"order 3 1,2,0", "3"},
	{"order 3 -", "1"},
	{"order 1 0", "1"},
	{"order 0 -", "ErrRange"},
	{"order 8 -", "ErrRange"},
	{"order 1 0/0/0/0/0", "ErrFull"},
	{"order 2 0", "ErrShape"},
	{"order 2 0,2", "ErrRange"},
	{"order 2 0,0", "ErrTwice"},
	{"beads 4 2", "6"},
	{"beads 6 3", "130"},
	{"beads 2 4", "10"},
	{"beads 0 1", "ErrRange"},
	{"beads 1 0", "ErrRange"},
	{"beads 60 3", "ErrFull"},
	{"extend 3 1,0,2", "1,0,2/0,2,1/2,1,0"},
	{"extend 2 -", "0,1/1,0"},
	{"extend 2 1,0/0,1", "1,0/0,1"},
	{"extend 1 -", "0"},
	{"extend 0 -", "ErrRange"},
	{"extend 9 -", "ErrRange"},
	{"extend 1 0/0", "ErrFull"},
	{"extend 2 0", "ErrShape"},
	{"extend 2 0,2", "ErrRange"},
	{"extend 2 0,0", "ErrTwice"},
	{"level 7 " + seven + " 2", "3 1"},
	{"level 7 " + seven + " 1", "3 3"},
	{"level 7 " + seven + " 0", "3 7"},
	{"level 7 " + seven + " 3", "ErrNone"},
	{"level 8 " + seven + " 2", "ErrNone"},
	{"level 4 0,1,2,3 4", "4 1"},
	{"level 7 - 2", "ErrNone"},
	{"level 7 " + seven + " 5", "ErrRange"},
	{"level 41 - 0", "ErrRange"},
	{"level 2 0,2 0", "ErrRange"},
	{"level 2 1,0 0", "ErrShape"},
	{"level 1 " + strings.Repeat("0/", 200) + "0 0", "ErrFull"},
	{"level 1 " + strings.Repeat("0/", 199) + "0 1", "1 200"},
	{"triples 7", "0,1,3/0,2,4/0,5,6/1,2,6/1,4,5/2,3,5/3,4,6"},
	{"triples 3", "0,1,2"},
	{"triples 1", "-"},
	{"triples 0", "ErrRange"},
	{"triples 34", "ErrRange"},
	{"triples 5", "ErrNone"},
	{"differ 7 1,2,4", "1 1,2,4"},
	{"differ 11 1,3,4,5,9", "2 1,3,4,5,9"},
	{"differ 7 -", "0 1,2,3,4,5,6"},
	{"differ 1 -", "0 -"},
	{"differ 1 0", "0 -"},
	{"differ 7 1,2", "ErrNone"},
	{"differ 0 -", "ErrRange"},
	{"differ 61 -", "ErrRange"},
	{"differ 7 1,7", "ErrRange"},
	{"differ 7 2,1", "ErrShape"},
	{"ruler 4", "0,1,4,6"},
	{"ruler 5", "0,1,4,9,11"},
	{"ruler 1", "0"},
	{"ruler 0", "ErrRange"},
	{"ruler 8", "ErrRange"},
	{"gauss 4 2 2", "35"},
	{"gauss 3 1 5", "31"},
	{"gauss 4 2 1", "ErrRange"},
	{"gauss 30 15 64", "ErrFull"},
	{"bent 0,0,0,1", "yes"},
	{"bent 0", "yes"},
	{"bent 0,1", "no"},
	{"bent 0,1,1,0", "no"},
	{"bent -", "ErrShape"},
	{"bent 0,0,0", "ErrShape"},
	{"bent 0,2", "ErrRange"},
	{"rao 7 2 2", "8"},
	{"rao 4 3 2", "9"},
	{"rao 5 2 3", "10"},
	{"rao 31 2 2", "ErrRange"},
	{"rao 30 64 30", "ErrFull"},
	{"circle 4", "3,2,1,0/2,3,0,1/1,0,3,2"},
	{"circle 2", "1,0"},
	{"circle 3", "ErrRange"},
	{"circle 18", "ErrRange"},
	{"could 0,1,2", "yes"},
	{"could 1,1,1", "yes"},
	{"could 0", "yes"},
	{"could 0,0,2", "no"},
	{"could -", "ErrShape"},
	{"could 1", "ErrRange"},
	{"could 0,0,0,0,0,0,0,0,0,0", "ErrFull"},
	{"bruijn 2 3", "0,0,0,1,0,1,1,1"},
	{"bruijn 3 1", "0,1,2"},
	{"bruijn 1 3", "0"},
	{"bruijn 11 1", "ErrRange"},
	{"bruijn 2 0", "ErrRange"},
	{"bruijn 10 4", "ErrFull"},
	{"bruijn 1 13", "ErrFull"},
	{"cascade 11 3", "5,2 12"},
	{"cascade 4 1", "4 1"},
	{"cascade 0 1", "- 0"},
	{"cascade 1 0", "ErrRange"},
	{"cascade 1 31", "ErrRange"},
	{"cascade 999999999 1", "999999999 1"},
	{"fly", "bad"},
}

// TestAnswers has X1: each row of the table by hand, alone and all together.
func TestAnswers(t *testing.T) {
	var lines, wants strings.Builder
	for _, a := range answers {
		wantAnswer(t, a[0], a[1])
		lines.WriteString(a[0] + "\n")
		wants.WriteString(a[1] + "\n")
	}
	wantText(t, lines.String(), wants.String())
}

// TestAnswersAreWhatTheDocumentSays holds the helper, by which the other tests go, against the answers by hand.
func TestAnswersAreWhatTheDocumentSays(t *testing.T) {
	for _, a := range answers {
		if got := answerTo(a[0]); got != a[1] {
			t.Errorf("%s: the helper tells %s", short(a[0]), short(got))
		}
	}
}

// ends are numbers at the bounds of the calls, and of a NUMBER.
var ends = []int{0, 1, 2, 3, 4, 5, 7, 8, 9, 11, 13, 16, 30, 31, 33, 34, 60, 61, 64, 65, 5000, 5001, 999_999_999}

// TestNumbersFromEndToEnd has X1: each row that is of NUMBER alone at numbers about the bounds.
func TestNumbersFromEndToEnd(t *testing.T) {
	for _, row := range table {
		kinds := strings.Split(row.line, " ")
		lines := []string{kinds[0]}
		for _, kind := range kinds[1:] {
			var more []string
			for _, line := range lines {
				for _, n := range ends {
					if kind == "NUMBER" && (n < 10 || len(kinds) < 5) {
						more = append(more, line+" "+strconv.Itoa(n))
					}
				}
			}
			lines = more
		}
		for _, line := range lines {
			wantAnswer(t, line, answerTo(line))
		}
	}
}

// TestStrewnLines has X1: lines of each row, most of which are no errors.
func TestStrewnLines(t *testing.T) {
	next := numbers(1)
	for _, row := range table {
		good, tries := 0, 0
		for ; good < 150 && tries < 10000; tries++ {
			line := strewn(row.line, next)
			want := answerTo(line)
			wantAnswer(t, line, want)
			if !strings.HasPrefix(want, "Err") && want != "bad" {
				good++
			}
		}
		if good < 150 || tries == good {
			t.Errorf("%s: of %d answers %d are no errors", row.line, tries, good)
		}
	}
}

// TestLongAnswers has X1: what is answered may be longer than a text.
func TestLongAnswers(t *testing.T) {
	for _, line := range []string{"bruijn 2 12", "bruijn 4 6", "bruijn 10 3", "row 7 6,5,4,3,2,1,0,6 1,2,3,4,5,6,0,1 5000", "triples 33", "triples 31", "circle 16", "extend 8 -", "bent " + strings.Repeat("0,1,", 127) + "0,0"} {
		wantAnswer(t, line, answerTo(line))
	}
}
