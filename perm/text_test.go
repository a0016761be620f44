package perm_test

import (
	"fmt"
	"slices"
	"strings"
	"testing"

	"parterre/api"
	"parterre/perm"
)

// written are permutations with their texts, written by hand.
func written() []struct {
	text string
	a    []int
} {
	return []struct {
		text string
		a    []int
	}{
		{"()", nil}, {"()", []int{0}}, {"()", stay(12)},
		{"(0 1)", []int{1, 0}}, {"(0 2)", []int{2, 1, 0}}, {"(1 2)", []int{0, 2, 1}},
		{"(0 1 2)", []int{1, 2, 0}}, {"(0 2 1)", []int{2, 0, 1}},
		{"(0 1 2)(3 4)", []int{1, 2, 0, 4, 3}},
		{"(0 3)(1 2)", []int{3, 2, 1, 0}},
		{"(10 11)", []int{0, 1, 2, 3, 4, 5, 6, 7, 8, 9, 11, 10}},
		{"(0 1)(2 3)(4 5)(6 7)(8 9)(10 11)", []int{1, 0, 3, 2, 5, 4, 7, 6, 9, 8, 11, 10}},
		{"(0 1 2 3 4 5 6 7 8 9 10 11)", []int{1, 2, 3, 4, 5, 6, 7, 8, 9, 10, 11, 0}},
		{"(0 11 1 10)(2 9 3 8)", []int{11, 10, 9, 8, 4, 5, 6, 7, 2, 3, 0, 1}},
	}
}

func TestWritten(t *testing.T) {
	for _, c := range written() {
		if got, e := perm.Cycles(c.a); got != c.text || e != api.OK {
			t.Errorf("Cycles(%v): got %q, error %d; want %q", c.a, got, e, c.text)
		}
		got, e := perm.Parse(c.text, len(c.a))
		wantList(t, "Parse "+c.text, got, e, c.a)
	}
}

// TestThereAndBack has M3: each permutation has its text, and the text leads back.
func TestThereAndBack(t *testing.T) {
	for _, a := range append(some(), all(6)...) {
		want := text(a)
		if got, e := perm.Cycles(a); got != want || e != api.OK {
			t.Errorf("Cycles(%v): got %q, error %d; want %q", a, got, e, want)
		}
		got, e := perm.Parse(want, len(a))
		wantList(t, "Parse "+want, got, e, a)
	}
}

// TestMorePoints has M3: what a text does not name stays.
func TestMorePoints(t *testing.T) {
	for n := 3; n <= api.MaxPoints; n++ {
		want := stay(n)
		want[0], want[2] = 2, 0
		got, e := perm.Parse("(0 2)", n)
		wantList(t, fmt.Sprint("Parse (0 2) of ", n), got, e, want)
	}
	for n := range 3 {
		wantSyntax(t, "(0 2)", n)
	}
}

func wantSyntax(t *testing.T, text string, n int) {
	t.Helper()
	if got, e := perm.Parse(text, n); e != api.ErrSyntax || len(got) != 0 {
		t.Errorf("Parse(%q, %d): got %v, error %d", text, n, got, e)
	}
}

// texts gives all texts of so many bytes.
func texts(bytes string, long int) []string {
	out := []string{""}
	for range long {
		var longer []string
		for _, head := range out {
			for _, b := range bytes {
				longer = append(longer, head+string(b))
			}
		}
		out = longer
	}
	return out
}

// TestAllShortTexts has M3: of all short texts just those are read that are the text of a permutation.
func TestAllShortTexts(t *testing.T) {
	for n := range 4 {
		known := map[string][]int{}
		for _, a := range all(n) {
			known[text(a)] = a
		}
		for long := range 8 {
			for _, s := range texts("()012 ", long) {
				want, ok := known[s]
				if !ok {
					wantSyntax(t, s, n)
					continue
				}
				got, e := perm.Parse(s, n)
				wantList(t, "Parse "+s, got, e, want)
			}
		}
	}
}

// TestSpoiltTexts has M3: a text that one byte is taken from, put into or changed in is read just if it is another one's text.
func TestSpoiltTexts(t *testing.T) {
	for _, n := range []int{4, 5} {
		known := map[string][]int{}
		for _, a := range all(n) {
			known[text(a)] = a
		}
		for s := range known {
			for _, spoilt := range spoil(s) {
				want, ok := known[spoilt]
				if !ok {
					wantSyntax(t, spoilt, n)
					continue
				}
				got, e := perm.Parse(spoilt, n)
				wantList(t, "Parse "+spoilt, got, e, want)
			}
		}
	}
}

func spoil(s string) []string {
	var out []string
	for at := range len(s) + 1 {
		for _, b := range "()0123459 ,-+\n\t\x00x" {
			out = append(out, s[:at]+string(b)+s[at:])
			if at < len(s) {
				out = append(out, s[:at]+string(b)+s[at+1:])
			}
		}
		if at < len(s) {
			out = append(out, s[:at]+s[at+1:])
		}
	}
	return out
}

// TestWrongTexts has M3's ErrSyntax where a reader might be lenient.
func TestWrongTexts(t *testing.T) {
	for _, s := range []string{
		"", " ", "(", ")", ")(", "(()", "())", "(())", "()()", "() ", " ()", "( )", "()\n",
		"(0)", "(0)(1 2)", "(1 2)(0)", "()(0 1)", "(0 1)()",
		"(1 0)", "(1 2 0)", "(0 1)(3 2)", "(2 3)(0 1)", "(0 0)", "(0 1 0)", "(0 1 1)", "(0 1)(0 1)", "(0 1)(1 2)", "(0 1)(0 2)", "(0 1 2)(1 2)",
		"(00 1)", "(0 01)", "(+0 1)", "(0 +1)", "(-0 1)", "(0 -1)", "(0x0 1)", "(0 1_0)", "(0 1.0)", "(0 1e0)",
		"(0  1)", "( 0 1)", "(0 1 )", "(0 1) (2 3)", "(0 1)(2 3) ", " (0 1)", "(0\t1)", "(0,1)", "(0, 1)", "[0 1]", "{0 1}",
		"0 1", "(0 1", "0 1)", "(0 1)(2 3", "(0 1)2 3)", "0 1)(2 3)", "((0 1)(2 3))", "(0 1))", "(0 1)(", "(0 (1 2))",
		"(0 12)", "(11 12)", "(0 99999999999999999999)", "(0 18446744073709551617)", "(0 9223372036854775808)",
		"(0 1)x", "x", "(a b)", "(0\u00a01)", "(0 \u0661)", "\xff", "(0 \xff)", "(0 1)\x00", "1 0",
	} {
		wantSyntax(t, s, 12)
	}
}

// TestNoPointsNoNames has M3 of 0 points and of 1: nothing but brackets is read.
func TestNoPointsNoNames(t *testing.T) {
	for n := range 2 {
		for _, s := range []string{"", "(0)", "(0 1)", "( )", "0", "()()"} {
			wantSyntax(t, s, n)
		}
	}
}

// TestLongTexts has P1: a text that is far too long is told so.
func TestLongTexts(t *testing.T) {
	for _, piece := range []string{"(", ")", "()", "(0 1)", "0 ", "(0 1 2)", " ", "x", "(0", "\xff"} {
		wantSyntax(t, strings.Repeat(piece, 300000), 12)
		wantSyntax(t, "(0 1)"+strings.Repeat(piece, 300000), 12)
	}
}

// TestParseRange has M3: n is said first, whatever the text is.
func TestParseRange(t *testing.T) {
	for _, n := range far(13, -1) {
		for _, s := range []string{"()", "", "(0 1)", "x", "(0 12)"} {
			if got, e := perm.Parse(s, n); e != api.ErrRange || len(got) != 0 {
				t.Errorf("Parse(%q, %d): got %v, error %d", s, n, got, e)
			}
		}
	}
	if got, e := perm.Parse("()", 12); e != api.OK || !slices.Equal(got, stay(12)) {
		t.Errorf("Parse of 12 points: got %v, error %d", got, e)
	}
}
