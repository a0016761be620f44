package run_test

import (
	"strings"
	"testing"

	"parterre/run"
)

// TestExamplesOfTheChapter has the table behind X2.
func TestExamplesOfTheChapter(t *testing.T) {
	wantText(t, "field 2 3\norder 3 1,2,0/1,0,2\ngauss 4 2 1\nfly", "1,1,0\n6\nErrRange\nbad\n")
}

// TestNothingIsKept has P2 of the document: the same text is answered alike, whatever was answered ahead of it.
func TestNothingIsKept(t *testing.T) {
	next := numbers(5)
	var all []string
	for range 50 {
		all = append(all, someLine(next)+"\n"+someLine(next))
	}
	was := make([]string, len(all))
	for i, text := range all {
		was[i] = run.Run(text)
	}
	for range 300 {
		i := next(len(all))
		wantText(t, all[i], was[i])
	}
}

// TestManyAtOnce has P2 of the document: who else asks meanwhile changes no answer (the race detector tells what is written).
func TestManyAtOnce(t *testing.T) {
	var lines, wants strings.Builder
	for _, a := range answers {
		lines.WriteString(a[0] + "\n")
		wants.WriteString(a[1] + "\n")
	}
	got := make(chan string)
	for range 8 {
		go func() { got <- run.Run(lines.String()) }()
	}
	for range 8 {
		if text := <-got; text != wants.String() {
			t.Errorf("got %s", short(text))
		}
	}
}

// TestNothingPanics has P1 of the document: each line that there can be of each row's words, cut short at each byte, and whatever bytes there are.
func TestNothingPanics(t *testing.T) {
	for _, a := range answers {
		for at := range len(a[0]) {
			if line := a[0][:at]; strings.Contains(line, " ") {
				wantAnswer(t, line, answerTo(line))
			}
		}
	}
	next := numbers(6)
	for range 3000 {
		text := someBytes(next)
		if run.Run(text) == "too long\n" {
			t.Errorf("%s: too long", short(text))
		}
	}
}

// TestMuchWork has P1 of the document: as much as a text can ask for comes to an end.
func TestMuchWork(t *testing.T) {
	for _, line := range []string{"triples 33", "extend 8 -", "bruijn 2 12", "order 7 1,0,2,3,4,5,6/1,2,3,4,5,6,0", "row 2 1 1 5000", "field 2 6", "beads 720720000 1", "gauss 30 15 64", "cascade 999999999 30"} {
		n := 8000 / (len(line) + 1)
		wantText(t, strings.Repeat(line+"\n", n), strings.Repeat(answerTo(line)+"\n", n))
	}
}
