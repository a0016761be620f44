package run_test

import (
	"strings"
	"testing"
)

// TestShortWords has X1: of all short texts only a NUMBER is read as such, only NUMBERS, only ROWS; they stand last in a line, and in the middle of one.
func TestShortWords(t *testing.T) {
	of := map[string][]string{
		"NUMBER":  {"ruler *", "times 2 * 0 0"},
		"NUMBERS": {"could *", "row 2 * 1 1"},
		"ROWS":    {"order 1 *", "level 1 * 1"},
	}
	for kind, lines := range of {
		goods := 0
		for _, text := range texts("01,/- ", 5) {
			for _, line := range lines {
				line = strings.ReplaceAll(line, "*", text)
				want := answerTo(line)
				wantAnswer(t, line, want)
				if want != "bad" {
					goods++
				}
				if (want != "bad") != patterns[kind].MatchString(text) {
					t.Errorf("%q as %s: the helper tells %s", text, kind, want)
				}
			}
		}
		if goods == 0 {
			t.Errorf("%s: none is read", kind)
		}
	}
}

// texts has all texts of up to so many of these letters.
func texts(letters string, most int) []string {
	out := []string{""}
	longest := out
	for range most {
		var more []string
		for _, text := range longest {
			for _, letter := range letters {
				more = append(more, text+string(letter))
			}
		}
		longest = more
		out = append(out, more...)
	}
	return out
}

// wrongNumbers are no NUMBER wherever one may stand.
var wrongNumbers = []string{
	"00", "01", "007", "+1", "-1", "-0", "--", "1-", "1.", "1.0", "1e1", "0x1", "1_0", "a", "one",
	"1000000000", "0000000001", "9999999999", "9223372036854775808", "18446744073709551617", strings.Repeat("1", 100),
	"\t1", "1\t", "1\r", "\x001", "1\x00", "\xff", "٣", "１", "1;1", "(1)", "[1]",
}

// TestWrongNumbers has X1: one wrong number, in any place of any line, makes it bad.
func TestWrongNumbers(t *testing.T) {
	for _, a := range answers {
		if a[1] == "bad" || len(a[0]) > 100 {
			continue
		}
		for i, r := range a[0] {
			if i == 0 || !isDigit(r) || isDigit(rune(a[0][i-1])) {
				continue
			}
			end := i
			for end < len(a[0]) && isDigit(rune(a[0][end])) {
				end++
			}
			for _, wrong := range append(wrongNumbers, "", "-") {
				line := a[0][:i] + wrong + a[0][end:]
				want := answerTo(line)
				if wrong != "-" && want != "bad" { // `-` may be NUMBERS
					t.Errorf("%s: the helper tells %s", short(line), want)
				}
				wantAnswer(t, line, want)
			}
		}
	}
}

func isDigit(r rune) bool { return r >= '0' && r <= '9' }

// TestNumbersOfNineDigits has X1: the greatest NUMBER, and the least that is none.
func TestNumbersOfNineDigits(t *testing.T) {
	wantAnswer(t, "cascade 999999999 1", "999999999 1")
	wantAnswer(t, "cascade 1000000000 1", "bad")
	wantAnswer(t, "cascade 100000000 1", "100000000 1")
	wantAnswer(t, "beads 1 999999999", "999999999")
	wantAnswer(t, "beads 1 1000000000", "bad")
	wantAnswer(t, "could 0,999999999", "ErrRange")
	wantAnswer(t, "could 0,1000000000", "bad")
	wantAnswer(t, "order 2 0,1/0,999999999", "ErrRange")
	wantAnswer(t, "order 2 0,1/0,1000000000", "bad")
	wantAnswer(t, "ruler 0", "ErrRange")
	wantAnswer(t, "ruler 00", "bad")
}

// TestWordsOfALine has X1: a line has just as many words as its row says, and one blank between.
func TestWordsOfALine(t *testing.T) {
	for _, a := range answers {
		if a[1] == "bad" {
			continue
		}
		words := strings.Split(a[0], " ")
		for i := range words {
			wantAnswer(t, join(words[:i], words[i+1:]), "bad")
			wantAnswer(t, join(words[:i], []string{""}, words[i:]), "bad")
			for _, more := range []string{"0", "-", words[i], "\t"} {
				if line := join(words[:i], []string{more}, words[i:]); i > 0 {
					wantAnswer(t, line, "bad")
				}
			}
			if i > 0 {
				wantAnswer(t, strings.Join(words[:i], " ")+"\t"+strings.Join(words[i:], " "), "bad")
				wantAnswer(t, strings.Join(words[:i], " ")+strings.Join(words[i:], " "), "bad")
				wantAnswer(t, strings.Join(words[:i], " "), "bad")
			}
		}
		for _, end := range []string{" ", " 0", " -", "\t", "\r", "\v", "\f", "\x00", ",", "/", "  ", " " + a[0]} {
			wantAnswer(t, a[0]+end, "bad")
			wantAnswer(t, end+a[0], "bad")
		}
	}
}

func join(lists ...[]string) string {
	var out []string
	for _, list := range lists {
		out = append(out, list...)
	}
	return strings.Join(out, " ")
}

// TestFirstWords has X1: what is no row's name, with any words behind it, is bad.
func TestFirstWords(t *testing.T) {
	for _, row := range table {
		first, rest, _ := strings.Cut(row.line, " ")
		rest = strings.NewReplacer("NUMBERS", "0", "NUMBER", "1", "ROWS", "0").Replace(rest)
		if answerTo(first+" "+rest) == "bad" {
			t.Errorf("%s %s: the helper tells bad", first, rest)
		}
		wantAnswer(t, first+" "+rest, answerTo(first+" "+rest))
		for _, wrong := range []string{"", strings.ToUpper(first), strings.ToUpper(first[:1]) + first[1:], first[1:], first[:len(first)-1], first + "s", first + "\x00", "fly", "check"} {
			wantAnswer(t, wrong+" "+rest, "bad")
			wantAnswer(t, wrong, "bad")
		}
		for _, other := range table {
			name, _, _ := strings.Cut(other.line, " ")
			wantAnswer(t, name+" "+rest, answerTo(name+" "+rest))
		}
	}
}

// TestListsThatAreRead has X1: what is NUMBERS, and what is ROWS.
func TestListsThatAreRead(t *testing.T) {
	for _, c := range [][2]string{
		{"could -", "ErrShape"}, {"could 0", "yes"}, {"could 1,0", "yes"},
		{"could --", "bad"}, {"could -,0", "bad"}, {"could 0,-", "bad"}, {"could ,", "bad"}, {"could 0,", "bad"}, {"could ,0", "bad"}, {"could 0,,1", "bad"}, {"could 0/1", "bad"}, {"could 0.1", "bad"}, {"could 0, 1", "bad"},
		{"order 2 -", "1"}, {"order 2 1,0", "2"}, {"order 2 1,0/0,1", "2"}, {"order 1 0/0", "1"},
		{"order 2 -/-", "bad"}, {"order 2 1,0/-", "bad"}, {"order 2 -/1,0", "bad"}, {"order 2 /", "bad"}, {"order 2 1,0/", "bad"}, {"order 2 /1,0", "bad"}, {"order 2 1,0//0,1", "bad"}, {"order 2 1,/0", "bad"}, {"order 2 1,0 /0,1", "bad"},
		{"gauss 4 2 -", "bad"}, {"gauss 4 2 1,2", "bad"}, {"gauss 4 2 1/2", "bad"}, {"gauss - 2 2", "bad"},
	} {
		wantAnswer(t, c[0], c[1])
	}
}

// TestSpoiltLines has X1: lines in which a byte or two are others, are left out or are put in.
func TestSpoiltLines(t *testing.T) {
	next := numbers(2)
	const bytes = " ,/-0123456789+x\t\r\x00\xc3"
	bad, good := 0, 0
	for range 40000 {
		line := strewn(table[next(len(table))].line, next)
		for range 1 + next(2) {
			at := next(len(line))
			end := at + next(2)
			line = line[:at] + bytes[next(len(bytes)):][:next(2)] + line[end:]
			if line == "" {
				break
			}
		}
		if line == "" {
			continue
		}
		want := answerTo(line)
		wantAnswer(t, line, want)
		if want == "bad" {
			bad++
		} else {
			good++
		}
	}
	if bad < 5000 || good < 5000 {
		t.Errorf("%d are bad, %d are not", bad, good)
	}
}
