package square_test

import (
	"fmt"
	"testing"

	"groutwork/api"
	"groutwork/square"
)

// invalidSets returns a set for each way of not being valid.
func invalidSets() map[string][]api.Tile {
	return map[string][]api.Tile{
		"negative north": {{N: -1}},
		"negative east":  {{E: -1}},
		"negative south": {{S: -1}},
		"negative west":  {{W: -1}},
		"great north":    {{N: api.MaxColours}},
		"great east":     {{E: api.MaxColours}},
		"great south":    {{S: api.MaxColours}},
		"great west":     {{}, {W: api.MaxColours}},
		"great torus":    {{N: api.MaxColours, S: api.MaxColours}},
		"greatest int":   {{}, {N: greatest}},
		"least int":      {{}, {S: least}},
		"equal tiles":    {{N: 1}, {}, {N: 1}},
		"too many tiles": append(manyTiles(api.MaxTiles), api.Tile{N: 1}),
	}
}

// wrongSides returns numbers that are no side of a square.
func wrongSides() []int {
	return []int{0, -1, -2, -8, api.MaxSide + 1, api.MaxSide + 2, 1 << 32, 1<<32 + 1, 1 << 62, 1<<62 + 1, least, least + 1, greatest}
}

func TestRefusesSets(t *testing.T) {
	for name, set := range invalidSets() {
		for _, side := range append(wrongSides(), 1, 2, api.MaxSide) {
			wantError(t, name, set, side, api.ErrForm)
		}
	}
}

// ErrArg comes before ErrSize and ErrNone, whatever the set.
func TestRefusesSides(t *testing.T) {
	for _, set := range [][]api.Tile{nil, {{}}, {{N: 1}}, parse(t, chess), strangers(3), manyTiles(api.MaxTiles)} {
		for _, side := range wrongSides() {
			wantError(t, fmt.Sprint(len(set), " tiles"), set, side, api.ErrArg)
		}
	}
}

// As many tiles as 5000 lists allow have to be dealt with, whether there is a square or not.
func TestMostTiles(t *testing.T) {
	for side := 1; side <= api.MaxSide; side++ {
		n := mostTiles(side)
		what := fmt.Sprint(n, " tiles")
		if !exists(t, manyTiles(n), side) {
			t.Errorf("%s: no square of %d", what, side)
		}
		wantLargest(t, what, manyTiles(n), side, 0, api.ErrNone)
		if got := exists(t, strangers(n), side); got != (side == 1) {
			t.Errorf("%s that do not fit: %v, %d", what, got, side)
		}
		if side > 1 {
			wantLargest(t, what+" that do not fit", strangers(n), side, 1, api.OK)
		}
	}
}

// With one tile more ErrSize may be returned, and is, where no smaller square decides; a number of lists that overflows is great, too.
func TestTooManyTiles(t *testing.T) {
	for side := 2; side <= api.MaxSide; side++ {
		for _, n := range []int{mostTiles(side) + 1, 1 << 8, 1 << 9, api.MaxTiles} {
			what := fmt.Sprint(n, " tiles")
			wantError(t, what, manyTiles(n), side, api.ErrSize)
			if is, e := square.Exists(strangers(n), side); is || e != api.ErrSize {
				t.Errorf("%s that do not fit, %d: %v, error %d", what, side, is, e)
			}
			if n <= mostTiles(2) {
				wantLargest(t, what+" that do not fit", strangers(n), side, 1, api.OK)
			} else {
				wantLargest(t, what+" that do not fit", strangers(n), side, 0, api.ErrSize)
			}
		}
	}
}

// With a single cell there are never too many.
func TestManyTilesOneCell(t *testing.T) {
	for _, set := range [][]api.Tile{manyTiles(api.MaxTiles), strangers(api.MaxTiles)} {
		if !exists(t, set, 1) {
			t.Error("no square of 1")
		}
		wantLargest(t, fmt.Sprint(len(set), " tiles"), set, 1, 0, api.ErrNone)
	}
}

func TestEmptySet(t *testing.T) {
	for _, set := range [][]api.Tile{nil, {}} {
		for side := 1; side <= api.MaxSide; side++ {
			if exists(t, set, side) {
				t.Errorf("a square of %d without tiles", side)
			}
			wantLargest(t, "empty set", set, side, 0, api.OK)
		}
	}
}
