package strong_test

import (
	"testing"

	"parterre/api"
	"parterre/strong"
)

// wantAll holds what G2 asks of a graph against its words.
func wantAll(t *testing.T, g api.Square) {
	t.Helper()
	numbers, e := strong.Numbers(g)
	wantNumbers, wantE := numbersOf(g)
	want(t, name("Numbers", g), numbers, e, wantNumbers, wantE)
	other, e := strong.Other(g)
	wantSquare(t, name("Other", g), other, e, otherOf(g), api.OK)
	friend, e := strong.Friend(g)
	wantFriend, wantE := friendOf(g)
	want(t, name("Friend", g), friend, e, wantFriend, wantE)
}

// TestAllSmall has G2: all graphs of up to 5 places, and how many of them are strong: those of cliques and their others, and the 12 rings of five.
func TestAllSmall(t *testing.T) {
	for i, many := range []int{1, 2, 2, 8, 14} {
		found := 0
		for g := range allGraphs(i + 1) {
			wantAll(t, g)
			if _, e := strong.Numbers(g); e == api.OK {
				found++
			}
		}
		if found != many {
			t.Errorf("%d places: %d are strong, want %d", i+1, found, many)
		}
	}
}

// TestSome has G2: graphs of all sizes, and these with one pair otherwise.
func TestSome(t *testing.T) {
	for start, g := range some() {
		wantAll(t, g)
		if g.Side == 1 {
			continue
		}
		next := numbers(start)
		for range 4 {
			a := next(g.Side - 1)
			b := a + 1 + next(g.Side-1-a)
			x := 1 - g.Cells[a*g.Side+b]
			wantAll(t, instead(instead(g, a*g.Side+b, x), b*g.Side+a, x))
		}
	}
}

// known is a graph whose numbers stand in books, or are told by hand.
type known struct {
	g       api.Square
	numbers api.Strong
}

func knownOnes() []known {
	return []known{
		{empty(1), api.Strong{Places: 1}},
		{empty(2), api.Strong{Places: 2}},
		{empty(24), api.Strong{Places: 24}},
		{complete(2), api.Strong{Places: 2, Degree: 1}},
		{complete(3), api.Strong{Places: 3, Degree: 2, Near: 1}},
		{complete(24), api.Strong{Places: 24, Degree: 23, Near: 22}},
		{cliques(2, 2), api.Strong{Places: 4, Degree: 1}},
		{cliques(12, 2), api.Strong{Places: 24, Degree: 1}},
		{cliques(3, 8), api.Strong{Places: 24, Degree: 7, Near: 6}},
		{apart(2, 2), api.Strong{Places: 4, Degree: 2, Far: 2}},
		{apart(2, 12), api.Strong{Places: 24, Degree: 12, Far: 12}},
		{apart(12, 2), api.Strong{Places: 24, Degree: 22, Near: 20, Far: 22}},
		{round(5, 1), api.Strong{Places: 5, Degree: 2, Far: 1}},
		{petersen(), api.Strong{Places: 10, Degree: 3, Far: 1}},
		{lattice(3), api.Strong{Places: 9, Degree: 4, Near: 1, Far: 2}},
		{lattice(4), api.Strong{Places: 16, Degree: 6, Near: 2, Far: 2}},
		{shrikhande(), api.Strong{Places: 16, Degree: 6, Near: 2, Far: 2}},
		{clebsch(), api.Strong{Places: 16, Degree: 5, Far: 2}},
		{otherOf(clebsch()), api.Strong{Places: 16, Degree: 10, Near: 6, Far: 6}},
		{round(17, 1, 2, 4, 8), api.Strong{Places: 17, Degree: 8, Near: 3, Far: 4}},
	}
}

// TestNumbersOfKnown has G2; whatever the names of the places.
func TestNumbersOfKnown(t *testing.T) {
	for i, k := range knownOnes() {
		got, e := strong.Numbers(k.g)
		want(t, name("Numbers", k.g), got, e, k.numbers, api.OK)
		g := renamed(k.g, strewnOrder(k.g.Side, numbers(i)))
		got, e = strong.Numbers(g)
		want(t, name("Numbers", g), got, e, k.numbers, api.OK)
	}
}

// backwards has the last place first.
func backwards(g api.Square) api.Square {
	var order []int
	for a := range g.Side {
		order = append(order, g.Side-1-a)
	}
	return renamed(g, order)
}

// TestNumbersOfNone has G2: graphs that have just one of the three not alike.
func TestNumbersOfNone(t *testing.T) {
	none := []api.Square{of(3, [2]int{0, 1}), of(24, [2]int{22, 23})} // degrees
	for sails := 2; sails <= 11; sails++ {
		none = append(none, windmill(sails)) // degrees: each two have one in common
	}
	for n := 6; n <= 24; n++ {
		none = append(none, round(n, 1))          // far: places two steps apart have one in common, those further apart none
		none = append(none, otherOf(round(n, 1))) // near
	}
	for _, g := range none {
		for _, g := range []api.Square{g, backwards(g)} {
			got, e := strong.Numbers(g)
			want(t, name("Numbers", g), got, e, api.Strong{}, api.ErrNone)
		}
	}
}

// TestOtherByHand has G2: no place is joined to itself.
func TestOtherByHand(t *testing.T) {
	got, e := strong.Other(cells(1, 0))
	wantSquare(t, "Other of one place", got, e, cells(1, 0), api.OK)
	got, e = strong.Other(cells(3, 0, 1, 0, 1, 0, 0, 0, 0, 0))
	wantSquare(t, "Other of a pair and one", got, e, cells(3, 0, 0, 1, 0, 0, 1, 1, 1, 0), api.OK)
	got, e = strong.Other(empty(24))
	wantSquare(t, "Other of what is not joined", got, e, complete(24), api.OK)
	got, e = strong.Other(complete(24))
	wantSquare(t, "Other of what is all joined", got, e, empty(24), api.OK)
}

// TestFriend has G2: windmills, the friend of all being each place once.
func TestFriend(t *testing.T) {
	for sails := 2; sails <= 11; sails++ {
		mill := windmill(sails)
		for friend := range mill.Side {
			order := strewnOrder(mill.Side, numbers(friend))
			other := order[mill.Side-1]
			for a, x := range order {
				if x == friend {
					order[a] = other
				}
			}
			order[mill.Side-1] = friend
			g := renamed(mill, order)
			got, e := strong.Friend(g)
			want(t, name("Friend", g), got, e, friend, api.OK)
		}
	}
}

// TestFriendAtTheEnds has G2: of one place there are no two, and no others; of three that are joined the first is told.
func TestFriendAtTheEnds(t *testing.T) {
	for _, n := range []int{1, 3} {
		got, e := strong.Friend(complete(n))
		want(t, name("Friend of all joined", n), got, e, 0, api.OK)
	}
	for _, n := range []int{2, 4, 5, 24} {
		got, e := strong.Friend(complete(n))
		want(t, name("Friend of all joined", n), got, e, 0, api.ErrNone)
	}
	for n := 2; n <= 24; n++ {
		got, e := strong.Friend(empty(n))
		want(t, name("Friend of none joined", n), got, e, 0, api.ErrNone)
		star := drawn(n, func(a, b int) bool { return a != b && (a == 0 || b == 0) })
		got, e = strong.Friend(star)
		want(t, name("Friend of a star", n), got, e, 0, api.ErrNone)
	}
}

// TestFriendOfNone has G2: a windmill with one pair otherwise is none, whichever pair it is.
func TestFriendOfNone(t *testing.T) {
	for sails := 2; sails <= 11; sails++ {
		mill := windmill(sails)
		for a := range mill.Side {
			for b := range a {
				x := 1 - mill.Cells[a*mill.Side+b]
				g := instead(instead(mill, a*mill.Side+b, x), b*mill.Side+a, x)
				got, e := strong.Friend(g)
				want(t, name("Friend", g), got, e, 0, api.ErrNone)
			}
		}
	}
}
