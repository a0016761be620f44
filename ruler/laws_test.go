package ruler_test

import (
	"testing"

	"parterre/api"
	"parterre/differ"
	"parterre/field"
	"parterre/perm"
	"parterre/ruler"
)

// TestWelchIsCostas has R4's first; and so is Welch's when it begins at another power.
func TestWelchIsCostas(t *testing.T) {
	for p := range 14 {
		for root := range p {
			a, e := ruler.Welch(p, root)
			if e != api.OK {
				continue
			}
			for range a {
				is, e := ruler.Costas(a)
				wantBool(t, name("Costas", a), is, e, true, api.OK)
				a = append(a[1:], a[0])
			}
		}
	}
}

// TestCostasIsKept has R4's second: what is undone, and what is read from behind, is Costas where the one is, of all there are of up to 7 points and of Welch's.
func TestCostasIsKept(t *testing.T) {
	var all [][]int
	for n := range 8 {
		all = append(all, permutations(n)...)
	}
	all = append(all, welch(11, 2), welch(11, 8), welch(13, 2), welch(13, 11))
	for _, a := range all {
		is, e := ruler.Costas(a)
		undo, _ := perm.Inverse(a)
		for _, b := range [][]int{undo, undone(a), fromBehind(a), fromBehind(undo)} {
			other, e1 := ruler.Costas(b)
			wantBool(t, name("Costas", b), other, e1, is, e)
		}
	}
}

// TestCostasesCountsCostas has R2: the number is that of those of which Costas says it.
func TestCostasesCountsCostas(t *testing.T) {
	for n := 1; n <= 7; n++ {
		want := 0
		for k := 0; ; k++ {
			a, e := perm.Unrank(n, k)
			if e != api.OK {
				break
			}
			if is, _ := ruler.Costas(a); is {
				want++
			}
		}
		got, e := ruler.Costases(n)
		wantNumber(t, name("Costases", n), got, e, want, api.OK)
	}
}

// TestRulersAreSidon has R4's last: all rulers of marks up to 14, and what Best gives, modulo each v above twice the last one.
func TestRulersAreSidon(t *testing.T) {
	some := 0
	ask := func(marks []int) {
		if is, _ := ruler.Check(marks); !is {
			return
		}
		some++
		for v := 2*marks[len(marks)-1] + 1; v <= 60; v++ {
			got, e := ruler.Sidon(marks, v)
			wantBool(t, name("Sidon", marks, ", ", v), got, e, true, api.OK)
		}
	}
	for n := range 6 {
		for _, rest := range chosen(n, 1, 14) {
			ask(append([]int{0}, rest...))
		}
	}
	for n := 1; n <= 7; n++ {
		marks, _ := ruler.Best(n)
		ask(marks)
	}
	if some < 100 {
		t.Errorf("%d rulers", some)
	}
}

// TestTwiceTheLastIsTooLittle has R4's bound: modulo twice the last mark, that one with itself is 0 with itself.
func TestTwiceTheLastIsTooLittle(t *testing.T) {
	for n := 2; n <= 7; n++ {
		marks, _ := ruler.Best(n)
		v := 2 * marks[n-1]
		got, e := ruler.Sidon(marks, v)
		wantBool(t, name("Sidon", marks, ", ", v), got, e, false, api.OK)
	}
}

// TestBestIsARuler has R1: Best is one by Check, it begins with 0, and each of n marks is there.
func TestBestIsARuler(t *testing.T) {
	for n := 1; n <= 7; n++ {
		marks, _ := ruler.Best(n)
		is, e := ruler.Check(marks)
		wantBool(t, name("Check", marks), is, e, len(marks) == n, api.OK)
	}
}

// TestSidonAndDifferences has R3 with chapter 10: a set whose differences come once each, or not at all, is Sidon.
func TestSidonAndDifferences(t *testing.T) {
	f, _ := field.Least(3, 3)
	v, set, _ := differ.Singer(f)
	got, e := ruler.Sidon(set, v)
	wantBool(t, name("Sidon", set, ", ", v), got, e, true, api.OK)
	for v := 2; v <= 11; v++ {
		for _, set := range allSets(v) {
			level, e := differ.Level(v, set)
			if e != api.OK {
				continue
			}
			got, e := ruler.Sidon(set, v)
			wantBool(t, name("Sidon", set, ", ", v), got, e, level < 2, api.OK)
		}
	}
}
