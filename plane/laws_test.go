package plane_test

import (
	"slices"
	"testing"

	"parterre/api"
	"parterre/design"
	"parterre/differ"
	"parterre/field"
	"parterre/plane"
)

// atlas has all that Join and Meet tell of a plane, so that a law is asked of all of it.
type atlas struct {
	known
	join, meet [][]int
}

func atlasOf(t *testing.T, k known) atlas {
	t.Helper()
	table := func(n int, ask func(api.Design, int, int) (int, api.Errno)) [][]int {
		out := make([][]int, n)
		for a := range n {
			out[a] = make([]int, n)
			for b := range n {
				x, e := ask(k.Design, a, b)
				if (e == api.OK) != (a != b) {
					t.Fatalf("%v: got error %d of %d, %d", k.Design, e, a, b)
				}
				out[a][b] = x
			}
		}
		return out
	}
	return atlas{k, table(k.Points, plane.Join), table(len(k.Blocks), plane.Meet)}
}

// madeOnes are the planes of all fields, as Make makes them.
func madeOnes(t *testing.T) []known {
	t.Helper()
	var out []known
	for q, f := range map[int]api.Field{2: numberField(2, 0), 3: numberField(3, 0), 4: four(), 5: numberField(5, 0)} {
		d, e := plane.Make(f)
		if e != api.OK {
			t.Fatalf("%s: error %d", name("Make", f), e)
		}
		out = append(out, known{d, q})
	}
	return out
}

// lies: is a point in a block?
func (a atlas) lies(p, block int) bool {
	_, has := slices.BinarySearch(a.Blocks[block], p)
	return has
}

// inLine: do three points, of which some may be the same one, lie in a block?
func (a atlas) inLine(p, q, r int) bool {
	if p == q || p == r || q == r {
		return true
	}
	return a.lies(r, a.join[p][q])
}

// crossing is where the block of two points meets that of two others.
func (a atlas) crossing(t *testing.T, p, q, r, s int) int {
	t.Helper()
	if a.join[p][q] == a.join[r][s] {
		t.Fatalf("%d, %d and %d, %d have one block", p, q, r, s)
	}
	return a.meet[a.join[p][q]][a.join[r][s]]
}

// TestMadeIsAPlane has P4's first: of each field, and the dual of it; and each two are told back by Join and Meet.
func TestMadeIsAPlane(t *testing.T) {
	for _, f := range smallFields() {
		d, e := plane.Make(f)
		n, e1 := plane.Check(d)
		if e != api.OK || n != order(f) || e1 != api.OK {
			t.Errorf("%s: got %v, error %d, of order %d, error %d", name("Make", f), d, e, n, e1)
		}
		dual, _ := design.Dual(d)
		n, e = plane.Check(dual)
		wantNumber(t, name("Check of the dual", dual), n, e, order(f), api.OK)
		// What a x + b y + c z tells does not mind which of the triples is the point.
		wantDesign(t, "the dual of what is made", dual, e, d, api.OK)
	}
}

// TestDualExchanges: the dual of a plane is a plane, in which Join and Meet are exchanged.
func TestDualExchanges(t *testing.T) {
	for _, k := range planes() {
		dual, _ := design.Dual(k.Design)
		n, e := plane.Check(dual)
		wantNumber(t, name("Check of the dual", k.Design), n, e, k.order, api.OK)
		here, there := atlasOf(t, k), atlasOf(t, known{dual, k.order})
		if !slices.EqualFunc(here.join, there.meet, slices.Equal) || !slices.EqualFunc(here.meet, there.join, slices.Equal) {
			t.Errorf("%v: the dual joins and meets otherwise", k.Design)
		}
	}
}

// TestPappus has P4's second: all threes on all pairs of lines.
func TestPappus(t *testing.T) {
	for _, k := range madeOnes(t) {
		a := atlasOf(t, k)
		asked := 0
		for _, two := range choices(len(a.Blocks), 2) {
			both := a.meet[two[0]][two[1]]
			left, right := rest(a.Blocks[two[0]], both), rest(a.Blocks[two[1]], both)
			for _, i := range choices(len(left), 3) {
				p := [3]int{left[i[0]], left[i[1]], left[i[2]]}
				for _, q := range ordered(right) {
					x, y, z := a.crossing(t, p[0], q[1], p[1], q[0]), a.crossing(t, p[0], q[2], p[2], q[0]), a.crossing(t, p[1], q[2], p[2], q[1])
					asked++
					if !a.inLine(x, y, z) {
						t.Errorf("order %d: %v and %v cross in %d, %d, %d", k.order, p, q, x, y, z)
					}
				}
			}
		}
		if want := []int{0, 78 * 6, 210 * 4 * 24, 465 * 10 * 60}[k.order-2]; asked != want {
			t.Errorf("order %d: %d are asked for, want %d", k.order, asked, want)
		}
	}
}

// rest has all but one.
func rest(list []int, one int) []int {
	return slices.DeleteFunc(slices.Clone(list), func(p int) bool { return p == one })
}

// ordered gives all threes of a list, in each order.
func ordered(list []int) [][3]int {
	var out [][3]int
	for _, p := range list {
		for _, q := range list {
			for _, r := range list {
				if p != q && p != r && q != r {
					out = append(out, [3]int{p, q, r})
				}
			}
		}
	}
	return out
}

// TestDesargues has P4's third: from each point, all pairs of triangles along all threes of lines.
func TestDesargues(t *testing.T) {
	for _, k := range madeOnes(t) {
		a := atlasOf(t, k)
		asked := 0
		for from := range a.Points {
			lines := holding(a.Design, from)
			for _, i := range choices(len(lines), 3) {
				asked += a.desargues(t, from, lines[i[0]], lines[i[1]], lines[i[2]])
			}
		}
		if asked == 0 && k.order > 2 {
			t.Errorf("order %d: none is asked for", k.order)
		}
	}
}

// desargues asks all pairs of triangles with a corner each on three lines from a point.
func (a atlas) desargues(t *testing.T, from, first, second, third int) int {
	t.Helper()
	asked := 0
	pairs := func(block int) [][2]int {
		var out [][2]int
		for _, p := range rest(a.Blocks[block], from) {
			for _, q := range rest(a.Blocks[block], from) {
				if p != q {
					out = append(out, [2]int{p, q})
				}
			}
		}
		return out
	}
	ps, qs, rs := pairs(first), pairs(second), pairs(third)
	for _, p := range ps {
		for _, q := range qs {
			x := a.crossing(t, p[0], q[0], p[1], q[1])
			for _, r := range rs {
				if a.inLine(p[0], q[0], r[0]) || a.inLine(p[1], q[1], r[1]) {
					continue
				}
				asked++
				y, z := a.crossing(t, p[0], r[0], p[1], r[1]), a.crossing(t, q[0], r[0], q[1], r[1])
				if !a.inLine(x, y, z) {
					t.Errorf("order %d: from %d, by %v, %v, %v: %d, %d, %d", a.order, from, p, q, r, x, y, z)
				}
			}
		}
	}
	return asked
}

// TestConicIsAnArc has P4's fourth.
func TestConicIsAnArc(t *testing.T) {
	for _, f := range smallFields() {
		d, _ := plane.Make(f)
		points, e := plane.Conic(f)
		if len(points) != order(f)+1 || e != api.OK {
			t.Errorf("%s: got %v, error %d", name("Conic", f), points, e)
		}
		is, e := plane.Arc(d, points)
		wantBool(t, name("Arc", points), is, e, true, api.OK)
	}
}

// TestArcsAreShort has P4's last (Bose): arcs that begin with the first two points are grown by all that Arc lets be; the greatest have n + 1 points, or n + 2, if n is even.
func TestArcsAreShort(t *testing.T) {
	for _, k := range planes() {
		most := 0
		var grow func(arc []int)
		grow = func(arc []int) {
			most = max(most, len(arc))
			for p := arc[len(arc)-1] + 1; p < k.Points; p++ {
				longer := append(slices.Clone(arc), p)
				is, e := plane.Arc(k.Design, longer)
				if e != api.OK {
					t.Fatalf("%s: error %d", name("Arc", k.Design, longer), e)
				}
				if is {
					grow(longer)
				}
			}
		}
		grow([]int{0, 1})
		if want := k.order + 2 - k.order%2; most != want {
			t.Errorf("%v: an arc of %d points, want %d", k.Design, most, want)
		}
	}
}

// TestWhatJoinAndMeetTell: the block of two points has both; two blocks through a point meet there, two points on a block are joined by it.
func TestWhatJoinAndMeetTell(t *testing.T) {
	for _, k := range planes() {
		a := atlasOf(t, k)
		for p := range a.Points {
			for q := range a.Points {
				if p == q {
					continue
				}
				if b := a.join[p][q]; !a.lies(p, b) || !a.lies(q, b) || a.join[q][p] != b {
					t.Errorf("%v: Join of %d, %d is %d", k.Design, p, q, b)
				}
				for r := range a.Points {
					if !a.inLine(p, q, r) && a.meet[a.join[p][q]][a.join[p][r]] != p {
						t.Errorf("%v: what joins %d with %d and %d does not meet there", k.Design, p, q, r)
					}
				}
			}
		}
	}
}

// TestSingerMakesPlanes: what is developed of Singer's sets, where the Degree is 3, is a plane whose order is the Prime.
func TestSingerMakesPlanes(t *testing.T) {
	for _, p := range []int{2, 3} {
		f, _ := field.Least(p, 3)
		v, set, _ := differ.Singer(f)
		d, _ := differ.Develop(v, set)
		n, e := plane.Check(d)
		wantNumber(t, name("Check of Singer's", f), n, e, p, api.OK)
	}
}

// TestCountingBoundsPlanes: there are n n + n + 1 points and as many blocks, of n + 1 points each, and n + 1 through each point.
func TestCountingBoundsPlanes(t *testing.T) {
	for _, k := range planes() {
		n, _ := plane.Check(k.Design)
		if k.Points != n*n+n+1 || len(k.Blocks) != k.Points {
			t.Errorf("%v: order %d", k.Design, n)
		}
		for i, b := range k.Blocks {
			if len(b) != n+1 || len(holding(k.Design, i)) != n+1 {
				t.Errorf("%v: order %d, but not at %d", k.Design, n, i)
			}
		}
	}
}
