package square_test

import (
	"fmt"
	"testing"

	"groutwork/api"
)

// known is a set with the side of its greatest square, or -1 if it has squares of every side.
type known struct {
	set     []api.Tile
	largest int
}

func knownSets(t *testing.T) []known {
	cases := []known{
		{parse(t, "0.1.0.0"), 1},
		{parse(t, "0.0.1.0"), 1},
		{parse(t, ""), 0},
		{parse(t, "0.1.1.0"), 1},
		{parse(t, "0.0.0.0"), -1},
		{parse(t, "5.7.5.7"), -1},
		{parse(t, "999.0.999.0"), -1},
		{parse(t, "999.0.0.999"), 1},
		{parse(t, chess), -1},
		{parse(t, "0.1.1.0 1.2.0.1"), 1},
		// Rows of every length, columns of two tiles, and the other way round.
		{parse(t, "1.0.0.0 2.0.1.0"), 2},
		{parse(t, "0.1.0.0 0.2.0.1"), 2},
		// Rows and columns of every length, but nothing of two rows and two columns.
		{parse(t, "0.0.1.0 1.1.1.0"), 1},
		{parse(t, "0.0.0.1 0.1.1.1"), 1},
		// A tile that fills the plane, with others.
		{parse(t, "0.1.0.0 1.0.0.0 3.3.3.3"), -1},
		{parse(t, fives), -1},
		{parse(t, threes), 3},
		{parse(t, fours), 4},
		{parse(t, "1.0.0.2 3.2.3.0 3.0.3.1 0.1.1.2"), 4},
		{strangers(70), 1},
	}
	for _, sides := range [][2]int{{2, 1}, {3, 1}, {4, 1}, {1, 2}, {1, 3}, {1, 4}, {2, 2}, {2, 3}, {3, 2}, {2, 4}, {4, 2}, {2, 8}, {8, 2}} {
		n := min(sides[0], sides[1])
		if n == 1 {
			n = max(sides[0], sides[1])
		}
		cases = append(cases, known{block(sides[0], sides[1]), n})
	}
	return append(cases, known{block(1, 1), -1})
}

func TestKnownLargest(t *testing.T) {
	for _, c := range knownSets(t) {
		for most := 1; most <= api.MaxSide; most++ {
			what := fmt.Sprint(c.set)
			if c.largest < 0 && most > mostSide(len(c.set)) {
				wantLargest(t, what, c.set, most, 0, api.ErrSize)
			} else if c.largest < 0 || most <= c.largest {
				wantLargest(t, what, c.set, most, 0, api.ErrNone)
			} else {
				wantLargest(t, what, c.set, most, c.largest, api.OK)
			}
		}
	}
}

func TestKnownExists(t *testing.T) {
	for _, c := range knownSets(t) {
		for side := 1; side <= mostSide(len(c.set)); side++ {
			if got, want := exists(t, c.set, side), c.largest < 0 || side <= c.largest; got != want {
				t.Errorf("%v, %d: %v", c.set, side, got)
			}
		}
	}
}

// Squares of small sets, against all lists of cells.
func TestAgainstAllLists(t *testing.T) {
	some, none := 0, 0
	for _, set := range someSets(t) {
		for side := 1; side <= 3; side++ {
			if len(set) > 2 && side == 3 {
				continue
			}
			want := isFilled(set, side)
			if got := exists(t, set, side); got != want || hasSquare(set, side) != want {
				t.Fatalf("%v, %d: %v, %v, want %v", set, side, got, hasSquare(set, side), want)
			}
			if want {
				some++
			} else {
				none++
			}
		}
	}
	if some == 0 || none == 0 {
		t.Errorf("%d are there, %d are not", some, none)
	}
}

// Squares of every side, and the greatest one, against a search from cell to cell.
func TestAgainstCells(t *testing.T) {
	seen := map[int]int{}
	for _, set := range someSets(t) {
		bound := mostSide(len(set))
		largest := 0
		for side := 1; side <= bound; side++ {
			want := hasSquare(set, side)
			if got := exists(t, set, side); got != want {
				t.Fatalf("%v, %d: %v", set, side, got)
			}
			if want {
				largest = side
			}
		}
		for most := 1; most <= bound; most++ {
			if most <= largest {
				wantLargest(t, fmt.Sprint(set), set, most, 0, api.ErrNone)
			} else {
				wantLargest(t, fmt.Sprint(set), set, most, largest, api.OK)
			}
		}
		if largest == bound {
			largest = -1
		}
		seen[largest]++
	}
	for _, largest := range []int{-1, 0, 1, 2, 3, 4} {
		if seen[largest] == 0 {
			t.Errorf("only these sides: %v", seen)
		}
	}
}
