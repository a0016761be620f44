package differ_test

import (
	"testing"

	"parterre/api"
	"parterre/differ"
)

// someSets are all of few numbers, strewn ones of each v, and those of the books, moved and multiplied.
func someSets() []ring {
	out := strewn()
	for v := 1; v <= 11; v++ {
		out = append(out, allSets(v)...)
	}
	for _, k := range knownOnes() {
		out = append(out, k.ring, rest(k.ring), turned(k.ring, 1, k.v-1), turned(k.ring, k.v-1, 2))
	}
	return out
}

// TestLevel has D2's first.
func TestLevel(t *testing.T) {
	none := 0
	for _, r := range someSets() {
		got, e := differ.Level(r.v, r.set)
		if want, even := level(r); even {
			wantNumber(t, name("Level", r), got, e, want, api.OK)
		} else {
			none++
			wantNumber(t, name("Level", r), got, e, 0, api.ErrNone)
		}
	}
	if none < 1000 {
		t.Errorf("only %d are of no Level", none)
	}
}

// TestLevelByHand has D2's first: the edges, and sets of which one difference is missing.
func TestLevelByHand(t *testing.T) {
	for _, c := range []struct {
		ring
		want  int
		wantE api.Errno
	}{
		{ring{1, nil}, 0, api.OK},
		{ring{1, []int{0}}, 0, api.OK},
		{ring{2, nil}, 0, api.OK},
		{ring{2, []int{1}}, 0, api.OK},
		{ring{2, []int{0, 1}}, 2, api.OK},
		{ring{3, []int{0, 1}}, 1, api.OK},
		{ring{3, []int{0, 1, 2}}, 3, api.OK},
		{ring{4, []int{0, 1}}, 0, api.ErrNone},
		{ring{4, []int{0, 2}}, 0, api.ErrNone},
		{ring{4, []int{0, 1, 2}}, 2, api.OK},
		{ring{7, []int{0, 1, 2}}, 0, api.ErrNone},
		{ring{7, []int{0, 1, 3}}, 1, api.OK},
		{ring{13, []int{0, 1, 3, 7}}, 0, api.ErrNone},
		{ring{60, []int{0, 59}}, 0, api.ErrNone},
		{whole(59), 59, api.OK},
	} {
		got, e := differ.Level(c.v, c.set)
		wantNumber(t, name("Level", c.ring), got, e, c.want, c.wantE)
	}
}

// TestKnownOnes has D2: what books tell.
func TestKnownOnes(t *testing.T) {
	for _, k := range knownOnes() {
		n, e := differ.Level(k.v, k.set)
		wantNumber(t, name("Level", k.ring), n, e, k.level, api.OK)
		m, e := differ.Multipliers(k.v, k.set)
		wantList(t, name("Multipliers", k.ring), m, e, k.multipliers, api.OK)
	}
}

// TestDevelop has D2's second: the blocks come as i does, and each rises.
func TestDevelop(t *testing.T) {
	for _, r := range someSets() {
		got, e := differ.Develop(r.v, r.set)
		if r.v > 40 {
			wantDesign(t, name("Develop", r), got, e, api.Design{}, api.ErrFull)
			continue
		}
		want := api.Design{Points: r.v}
		for i := range r.v {
			want.Blocks = append(want.Blocks, turned(r, 1, i).set)
		}
		wantDesign(t, name("Develop", r), got, e, want, api.OK)
	}
}

// TestDevelopByHand has D2's second: the edges, MaxDesign among them.
func TestDevelopByHand(t *testing.T) {
	for _, c := range []struct {
		ring
		want  api.Design
		wantE api.Errno
	}{
		{ring{1, nil}, api.Design{Points: 1, Blocks: [][]int{{}}}, api.OK},
		{ring{1, []int{0}}, api.Design{Points: 1, Blocks: [][]int{{0}}}, api.OK},
		{ring{2, []int{1}}, api.Design{Points: 2, Blocks: [][]int{{1}, {0}}}, api.OK},
		{ring{3, []int{0, 1, 2}}, api.Design{Points: 3, Blocks: [][]int{{0, 1, 2}, {0, 1, 2}, {0, 1, 2}}}, api.OK},
		{ring{7, []int{1, 2, 4}}, api.Design{Points: 7, Blocks: [][]int{{1, 2, 4}, {2, 3, 5}, {3, 4, 6}, {0, 4, 5}, {1, 5, 6}, {0, 2, 6}, {0, 1, 3}}}, api.OK},
		{ring{40, nil}, api.Design{Points: 40, Blocks: make([][]int, 40)}, api.OK},
		{ring{41, nil}, api.Design{}, api.ErrFull},
		{ring{41, []int{0}}, api.Design{}, api.ErrFull},
		{ring{60, []int{0, 1}}, api.Design{}, api.ErrFull},
	} {
		got, e := differ.Develop(c.v, c.set)
		wantDesign(t, name("Develop", c.ring), got, e, c.want, c.wantE)
	}
}

// TestMultipliers has D2's third.
func TestMultipliers(t *testing.T) {
	for _, r := range someSets() {
		got, e := differ.Multipliers(r.v, r.set)
		wantList(t, name("Multipliers", r), got, e, multipliers(r), api.OK)
	}
}

// TestMultipliersByHand has D2's third: modulo 1 there is none; a divisor in common is none; and some need an s, or only some of them would be there.
func TestMultipliersByHand(t *testing.T) {
	for _, c := range []struct {
		ring
		want []int
	}{
		{ring{1, nil}, nil},
		{ring{1, []int{0}}, nil},
		{ring{2, nil}, []int{1}},
		{ring{2, []int{0}}, []int{1}},
		{ring{4, []int{0, 2}}, []int{1, 3}},
		{ring{6, []int{0}}, []int{1, 5}},
		{ring{6, []int{0, 1}}, []int{1, 5}},
		{ring{6, []int{0, 2, 4}}, []int{1, 5}},
		{ring{7, []int{0, 1, 3}}, []int{1, 2, 4}},
		{ring{7, []int{0, 1, 2}}, []int{1, 6}},
		{ring{8, []int{0, 1, 3}}, []int{1, 3}},
		{ring{9, []int{0, 1, 3}}, []int{1}},
		{ring{12, whole(12).set}, []int{1, 5, 7, 11}},
	} {
		got, e := differ.Multipliers(c.v, c.set)
		wantList(t, name("Multipliers", c.ring), got, e, c.want, api.OK)
	}
}
