package torus_test

import (
	"fmt"
	"slices"
	"testing"

	"groutwork/api"
	"groutwork/torus"
)

func TestFindExamples(t *testing.T) {
	for _, c := range []struct {
		set           string
		width, height int
		want          []int
	}{
		{chess, 2, 2, []int{0, 1, 1, 0}},
		{chess, 4, 2, []int{0, 1, 0, 1, 1, 0, 1, 0}},
		{chess, 2, 1, nil},
		{chess, 1, 2, nil},
		{chess, 1, 1, nil},
		{chess, 3, 2, nil},
		{chess, 2, 3, nil},
		{chess, 5, 5, nil},
		{"0.1.0.0", 1, 1, nil},
		{"0.1.0.0", 6, 6, nil},
		{"1.0.0.0", 6, 6, nil},
		{"0.1.0.1", 1, 1, []int{0}},
		{"0.1.0.1", 3, 2, []int{0, 0, 0, 0, 0, 0}},
		{"1.0.1.0", 2, 3, []int{0, 0, 0, 0, 0, 0}},
		{stack, 1, 3, []int{0, 1, 2}},
		{stack, 2, 3, []int{0, 0, 1, 1, 2, 2}},
		{stack, 1, 4, nil},
		{stack, 1, 2, nil},
		// Two tiles side by side that lead to each other, and one beside itself: the first ring that is on a torus.
		{"0.1.0.0 0.0.0.1 0.0.0.0", 1, 1, []int{2}},
		{"0.1.0.0 0.0.0.1 0.0.0.0", 2, 1, []int{0, 1}},
		{"0.1.0.0 0.0.0.1 0.0.0.0", 3, 1, []int{0, 1, 2}},
		// The first tile leads on to the north, but never back.
		{"1.0.0.0 0.0.0.0 1.0.1.0", 1, 3, []int{1, 1, 1}},
		// Upon the first tile the second one is not the right one, in the third row of four.
		{"0.0.0.0 1.0.0.0 0.0.1.0", 1, 4, []int{0, 0, 0, 0}},
		{"1.0.0.0 1.0.1.0 2.0.1.0 0.0.2.0", 1, 4, []int{0, 1, 2, 3}},
		{"1.0.0.0 0.0.1.0 2.0.1.0 0.0.2.0", 1, 3, []int{0, 2, 3}},
		{"1.0.0.0 0.0.1.0 2.0.1.0 0.0.2.0", 1, 4, []int{0, 1, 0, 1}},
		{"1.0.0.0 0.0.1.0 2.0.1.0 0.0.2.0", 1, 5, []int{0, 1, 0, 2, 3}},
	} {
		p, e := torus.Find(parse(t, c.set), c.width, c.height)
		what := fmt.Sprintf("%s, %d by %d", c.set, c.width, c.height)
		if len(c.want) == 0 {
			wantNone(t, what, p, e, api.ErrNone)
		} else if want := (api.Pattern{Width: c.width, Height: c.height, Cells: c.want}); e != api.OK || !samePattern(p, want) {
			t.Errorf("%s: %v, error %d, want %v", what, p, e, want)
		}
	}
}

// All sets of one and two tiles over two colours, and some others, against all lists of cells.
func TestFindAgainstAllLists(t *testing.T) {
	sets := append(mixedSets(60, 3, 2), mixedSets(20, 3, 3)...)
	sets = append(sets, mixedSets(20, 4, 2)...)
	all := lists(2, 4)
	for _, a := range all {
		one := api.Tile{N: a[0], E: a[1], S: a[2], W: a[3]}
		sets = append(sets, []api.Tile{one})
		for _, b := range all {
			if two := (api.Tile{N: b[0], E: b[1], S: b[2], W: b[3]}); one != two {
				sets = append(sets, []api.Tile{one, two})
			}
		}
	}
	found, none := 0, 0
	for _, set := range sets {
		for _, sides := range [][2]int{{1, 1}, {2, 1}, {1, 2}, {3, 1}, {1, 3}, {2, 2}, {4, 1}, {1, 4}, {3, 2}, {2, 3}} {
			tori := allTori(set, sides[0], sides[1])
			p, e := torus.Find(set, sides[0], sides[1])
			if len(tori) == 0 {
				none++
				wantNone(t, fmt.Sprint(set, sides), p, e, api.ErrNone)
				continue
			}
			found++
			if e != api.OK || !samePattern(p, tori[0]) {
				t.Fatalf("%v, %v: %v, error %d, want %v", set, sides, p, e, tori[0])
			}
		}
	}
	if found == 0 || none == 0 {
		t.Errorf("%d found, %d not", found, none)
	}
}

// All sizes of some sets, against another search by rows and one by columns.
func TestFindAllSizes(t *testing.T) {
	sets := slices.Concat(mixedSets(10, 2, 2), mixedSets(25, 3, 2), mixedSets(10, 3, 3), mixedSets(2, 4, 2))
	sets = append(sets, parse(t, chess), parse(t, stack), parse(t, fives), parse(t, "1.0.0.0 0.0.1.0 2.0.1.0 0.0.2.0"))
	found, none := 0, 0
	for _, set := range sets {
		for width := 1; width <= api.MaxPeriod; width++ {
			for height := 1; height <= api.MaxPeriod; height++ {
				want := firstTorus(set, width, height)
				if (len(want) > 0) != hasTorus(set, width, height) {
					t.Fatalf("%v, %d by %d: the tests do not agree", set, width, height)
				}
				if len(want) == 0 {
					none++
					p, e := torus.Find(set, width, height)
					wantNone(t, fmt.Sprint(set, width, height), p, e, api.ErrNone)
					continue
				}
				found++
				if p := wantTorus(t, set, width, height); !slices.Equal(p.Cells, want) {
					t.Fatalf("%v, %d by %d: %v, want %v", set, width, height, p.Cells, want)
				}
			}
		}
	}
	if found == 0 || none == 0 {
		t.Errorf("%d found, %d not", found, none)
	}
}

// A set with a single torus has this one and its multiples.
func TestFindRigid(t *testing.T) {
	for _, sides := range [][2]int{{1, 1}, {2, 1}, {1, 2}, {3, 1}, {1, 3}, {4, 1}, {1, 5}, {1, 6}, {2, 2}, {2, 3}, {2, 6}, {3, 3}, {3, 5}} {
		set := rigid(sides[0], sides[1], 0)
		for width := 1; width <= api.MaxPeriod; width++ {
			for height := 1; height <= api.MaxPeriod; height++ {
				if len(set) > mostTiles(width) {
					continue
				}
				p, e := torus.Find(set, width, height)
				if width%sides[0] != 0 || height%sides[1] != 0 {
					wantNone(t, fmt.Sprint(sides, width, height), p, e, api.ErrNone)
					continue
				}
				wantTorus(t, set, width, height)
				for i, index := range p.Cells {
					if index != i/width%sides[1]*sides[0]+i%width%sides[0] {
						t.Errorf("%v, %d by %d: %v", sides, width, height, p)
						break
					}
				}
			}
		}
	}
}

// The greatest and the least colours, and colours that are equal in one direction only.
func TestFindColours(t *testing.T) {
	for _, c := range []struct {
		set   []api.Tile
		there bool
	}{
		{[]api.Tile{{N: 999, E: 999, S: 999, W: 999}}, true},
		{[]api.Tile{{N: 999, E: 0, S: 999, W: 0}}, true},
		{[]api.Tile{{N: 0, E: 999, S: 0, W: 999}}, true},
		{[]api.Tile{{N: 999, E: 999, S: 0, W: 0}}, false},
		{[]api.Tile{{N: 1, E: 2, S: 2, W: 1}}, false},
		{[]api.Tile{{N: 1, E: 1, S: 1, W: 2}}, false},
		{[]api.Tile{{N: 1, E: 1, S: 2, W: 1}}, false},
		{[]api.Tile{{N: 256, E: 0, S: 0, W: 0}}, false},
	} {
		for _, sides := range [][2]int{{1, 1}, {1, 6}, {6, 1}, {6, 6}} {
			if got := exists(t, c.set, sides[0], sides[1]); got != c.there {
				t.Errorf("%v, %v: %v", c.set, sides, got)
			}
		}
	}
}
