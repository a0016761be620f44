package run_test

import (
	"strings"
	"testing"

	"parterre/run"
)

// TestLines has X1: a text is cut at byte 10, and a last piece that is empty is none.
func TestLines(t *testing.T) {
	for _, c := range [][2]string{
		{"", ""},
		{"\n", "bad\n"},
		{"\n\n", "bad\nbad\n"},
		{"ruler 1", "0\n"},
		{"ruler 1\n", "0\n"},
		{"ruler 1\n\n", "0\nbad\n"},
		{"\nruler 1", "bad\n0\n"},
		{"ruler 1\n\nruler 2", "0\nbad\n0,1\n"},
		{"ruler 1\nruler 2\nruler 3\n", "0\n0,1\n0,1,3\n"},
		{"ruler 1\r\nruler 2\r\n", "bad\nbad\n"},
		{"ruler 1\rruler 2", "bad\n"},
		{"ruler 1\vruler 2\fruler 3\u0085ruler 4\u2028ruler 5", "bad\n"},
		{"ruler\n1", "bad\nbad\n"},
		{" ", "bad\n"},
		{" \n ", "bad\nbad\n"},
		{"ruler 1\n ", "0\nbad\n"},
		{"ruler 1\n\x00", "0\nbad\n"},
		{"could 1,\n1,1\ncould 1,1,1", "bad\nbad\nyes\n"},
	} {
		wantText(t, c[0], c[1])
	}
}

// TestTooLong has X1: 8000 bytes are answered, and no byte more.
func TestTooLong(t *testing.T) {
	fits := func(text, want string) {
		t.Helper()
		if len(text) != 8000 {
			t.Errorf("%s: of %d bytes", short(text), len(text))
		}
		wantText(t, text, want)
		for _, more := range []string{"\n", " ", "0", "\x00", "ruler 1\n", text} {
			wantText(t, text+more, "too long\n")
			wantText(t, more+text, "too long\n")
		}
		wantText(t, text[1:]+"\n", run.Run(text[1:]+"\n"))
		if run.Run(text[1:]) == "too long\n" {
			t.Errorf("%s: one byte less is too long", short(text))
		}
	}
	fits(strings.Repeat("ruler 4\n", 1000), strings.Repeat("0,1,4,6\n", 1000))
	fits(strings.Repeat("\n", 8000), strings.Repeat("bad\n", 8000))
	fits(strings.Repeat(" ", 8000), "bad\n")
	fits(strings.Repeat("ü", 4000), "bad\n")
	fits("could 0"+strings.Repeat(",0", 3996)+"\n", "ErrFull\n")
	fits("could  "+strings.Repeat(",0", 3996)+"\n", "bad\n")
	fits("level 40 "+strings.Repeat("0/", 3994)+"0 0", "ErrFull\n")
	fits("ruler 1"+strings.Repeat("\n", 7993), "0\n"+strings.Repeat("bad\n", 7992))
	wantText(t, strings.Repeat("ruler 1\n", 1<<17), "too long\n")
}

// TestFirstLinesAreAnsweredAlike has X2: what lines are answered does not hang on those behind them, nor on those ahead.
func TestFirstLinesAreAnsweredAlike(t *testing.T) {
	next := numbers(3)
	for range 60 {
		var text, want string
		for range 1 + next(40) {
			line := someLine(next)
			if len(text)+len(line) > 7999 {
				break
			}
			text += line
			want += answerTo(line) + "\n"
			if line != "" { // a last piece that is empty is none
				wantText(t, text, want)
			}
			text += "\n"
			wantText(t, text, want)
		}
		all := run.Run(text)
		for at := range len(text) {
			if at > 0 && text[at-1] == '\n' {
				if first := run.Run(text[:at]); !strings.HasPrefix(all, first) || all != first+run.Run(text[at:]) {
					t.Errorf("%s: got %s first, then %s", short(text), short(first), short(all))
				}
			}
		}
	}
}

// someLine is one of any row, or a bad one.
func someLine(next func(int) int) string {
	if next(6) == 0 {
		return []string{"", "fly", " ", "ruler", "ruler 01", "could ,"}[next(6)]
	}
	return strewn(table[next(len(table))].line, next)
}

// TestEachLineHasOneAnswer has X1: of whatever bytes there are as many answers as lines.
func TestEachLineHasOneAnswer(t *testing.T) {
	next := numbers(4)
	for range 4000 {
		text := someBytes(next)
		lines := strings.Count(text, "\n")
		if text != "" && !strings.HasSuffix(text, "\n") {
			lines++
		}
		got := run.Run(text)
		if strings.Count(got, "\n") != lines || lines > 0 && !strings.HasSuffix(got, "\n") {
			t.Errorf("%s: got %s", short(text), short(got))
		}
	}
}

// someBytes has a text of any bytes, among which those that mean something are many.
func someBytes(next func(int) int) string {
	var out strings.Builder
	for range next(200) {
		switch next(4) {
		case 0:
			out.WriteByte(byte(next(256)))
		case 1:
			name, _, _ := strings.Cut(table[next(len(table))].line, " ")
			out.WriteString("\n" + name + " ")
		default:
			out.WriteByte("0123456789 ,/-\n"[next(15)])
		}
	}
	return out.String()
}
