package boole_test

import (
	"fmt"
	"math"
	"slices"
	"testing"

	"parterre/api"
	"parterre/boole"
)

// TestExampleOfTheChapter has the table behind B4.
func TestExampleOfTheChapter(t *testing.T) {
	f := []int{0, 0, 0, 1}
	list, e := boole.Anf(f)
	wantList(t, "Anf", f, list, e, []int{0, 0, 0, 1}, api.OK)
	list, e = boole.Spectrum(f)
	wantList(t, "Spectrum", f, list, e, []int{2, 2, 2, -2}, api.OK)
	n, e := boole.Far(f)
	wantNumber(t, "Far", f, n, e, 1, api.OK)
	bent, e := boole.Bent(f)
	wantTruth(t, "Bent", f, bent, e, true, api.OK)
	f = []int{0, 1, 1, 0}
	n, e = boole.Degree(f)
	wantNumber(t, "Degree", f, n, e, 1, api.OK)
	n, e = boole.Immune(f)
	wantNumber(t, "Immune", f, n, e, 1, api.OK)
}

// answers tells all that is asked of a list, as text.
func answers(list []int) string {
	n, e := boole.Check(list)
	anf, e1 := boole.Anf(list)
	degree, e2 := boole.Degree(list)
	spectrum, e3 := boole.Spectrum(list)
	far, e4 := boole.Far(list)
	bent, e5 := boole.Bent(list)
	immune, e6 := boole.Immune(list)
	back, e7 := boole.Back(list)
	return fmt.Sprint(n, e, anf, e1, degree, e2, spectrum, e3, far, e4, bent, e5, immune, e6, back, e7)
}

// asked are good and wrong ones, tables and spectra.
func asked() [][]int {
	out := [][]int{nil, {0}, {1}, {2}, {0, 1}, {2, 0}, {2, 2}, {0, 1, 0}, {2, 2, 2, -2}, {2, 2, 2, 2}, make([]int, 257)}
	for n := range 9 {
		f := strewn(n, n)
		out = append(out, f, spectrumOf(f), pairs(n, n), instead(f, 1<<n-1, 2), instead(f, 0, -1), instead(spectrumOf(f), 0, 3))
	}
	return out
}

// padded has room, and other numbers, behind its length.
func padded(list []int) []int {
	return append(slices.Clone(list), -7, 99, 0, 1)[:len(list)]
}

// behind tells all that lies in the memory of a list.
func behind(list []int) string {
	return fmt.Sprint(len(list), list[:cap(list)])
}

// TestNothingIsWritten has P2 and P4 of the document: the numbers, and what lies behind the length, stay and are not read; and the same is told again.
func TestNothingIsWritten(t *testing.T) {
	for _, list := range asked() {
		want := answers(slices.Clone(list))
		one := padded(list)
		was := behind(one)
		for range 2 {
			if told := answers(one); told != want {
				t.Errorf("got %s, want %s", told, want)
			}
		}
		if behind(one) != was {
			t.Errorf("written into: %v", list)
		}
	}
}

// TestNothingIsWrittenMeanwhile has P2 of the document: what is handed in is read by many at once, and none may write into it even for a while (the race detector tells).
func TestNothingIsWrittenMeanwhile(t *testing.T) {
	for _, list := range [][]int{padded(strewn(8, 1)), padded(spectrumOf(strewn(8, 2))), padded(strewn(0, 1))} {
		want := answers(list)
		told := make(chan string)
		for range 8 {
			go func() { told <- answers(list) }()
		}
		for range 8 {
			if got := <-told; got != want {
				t.Errorf("got %s, want %s", got, want)
			}
		}
	}
}

// TestNothingIsKept has P2 of the document: what is told hangs on what is there now.
func TestNothingIsKept(t *testing.T) {
	list := make([]int, 16)
	for start := range 40 {
		now := strewn(4, start)
		switch start % 5 {
		case 2:
			now = spectrumOf(now)
		case 4:
			now[start%16] = start
		}
		want := answers(now)
		copy(list, now)
		if got := answers(list); got != want {
			t.Errorf("got %s, want %s", got, want)
		}
	}
}

// spoil writes into all of a list's memory.
func spoil(list []int) {
	list = list[:cap(list)]
	for i := range list {
		list[i] = -5
	}
}

// TestWhatComesOutIsFresh has P2 of the document: whoever writes into what is answered, or behind its length, changes nothing that was handed in, and nothing that is told next. Some come out as they went in.
func TestWhatComesOutIsFresh(t *testing.T) {
	makers := map[string]func([]int) ([]int, api.Errno){"Anf": boole.Anf, "Spectrum": boole.Spectrum, "Back": boole.Back}
	for _, list := range append(asked(), []int{0, 0, 0, 1}, make([]int, 256)) {
		list = padded(list)
		was := behind(list)
		for call, ask := range makers {
			got, e := ask(list)
			want := slices.Clone(got)
			spoil(got)
			again, e1 := ask(list)
			wantList(t, call+" again", list, again, e1, want, e)
		}
		if behind(list) != was {
			t.Errorf("what was handed in is written into: %v", list)
		}
	}
}

// TestEmptyAndNil has P4 of the document: an empty list and nil are the same.
func TestEmptyAndNil(t *testing.T) {
	if a, b, c := answers(nil), answers([]int{}), answers([]int{1, 0}[:0]); a != b || b != c {
		t.Errorf("got %s, %s and %s", a, b, c)
	}
}

// TestNoNumberPanics has P1 of the document: each face at numbers from end to end, in each place.
func TestNoNumberPanics(t *testing.T) {
	ends := []int{math.MinInt, math.MinInt + 1, math.MinInt / 2, -257, -256, -2, -1, 0, 1, 2, 3, 4, 255, 256, 257, 1 << 31, 1 << 32, 1 << 62, math.MaxInt / 2, math.MaxInt - 1, math.MaxInt}
	for _, x := range ends {
		for long := range 10 {
			answers(slices.Repeat([]int{x}, long))
		}
		for _, y := range ends {
			for n := range 9 {
				for _, place := range []int{0, 1 << n / 2, 1<<n - 1} {
					answers(instead(instead(strewn(n, n), 0, y), place, x))
				}
			}
		}
	}
	for long := range 1100 {
		answers(make([]int, long))
	}
}
