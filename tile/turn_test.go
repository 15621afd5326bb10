package tile_test

import (
	"slices"
	"testing"

	"groutwork/api"
	"groutwork/tile"
)

func TestChangedSets(t *testing.T) {
	set := []api.Tile{{N: 1, E: 2, S: 3, W: 4}, {N: 5, E: 6, S: 7, W: 999}, {N: 0, E: 6, S: 7, W: 8}}
	want := [][]api.Tile{
		{{N: 1, E: 4, S: 3, W: 2}, {N: 5, E: 999, S: 7, W: 6}, {N: 0, E: 8, S: 7, W: 6}},
		{{N: 3, E: 2, S: 1, W: 4}, {N: 7, E: 6, S: 5, W: 999}, {N: 7, E: 6, S: 0, W: 8}},
		{{N: 4, E: 1, S: 2, W: 3}, {N: 999, E: 5, S: 6, W: 7}, {N: 8, E: 0, S: 6, W: 7}},
	}
	for i, c := range allChanges {
		if got, e := c.set(set); e != api.OK || !slices.Equal(got, want[i]) {
			t.Errorf("%s: %v, error %d", c.name, got, e)
		}
	}
}

func TestChangedPatterns(t *testing.T) {
	p := api.Pattern{Width: 3, Height: 2, Cells: []int{1, 2, 3, 4, 5, -6}}
	want := []api.Pattern{
		{Width: 3, Height: 2, Cells: []int{3, 2, 1, -6, 5, 4}},
		{Width: 3, Height: 2, Cells: []int{4, 5, -6, 1, 2, 3}},
		{Width: 2, Height: 3, Cells: []int{3, -6, 2, 5, 1, 4}},
	}
	for i, c := range allChanges {
		if got, e := c.pattern(p); e != api.OK || !samePattern(got, want[i]) {
			t.Errorf("%s: %v, error %d", c.name, got, e)
		}
	}
}

func TestChangesOfExtremes(t *testing.T) {
	for _, c := range allChanges {
		for _, empty := range [][]api.Tile{nil, {}} {
			if got, e := c.set(empty); e != api.OK || len(got) != 0 {
				t.Errorf("%s of the empty set: %v, error %d", c.name, got, e)
			}
		}
		if got, e := c.set(manyTiles(api.MaxTiles)); e != api.OK || len(got) != api.MaxTiles {
			t.Errorf("%s of the most tiles: %d tiles, error %d", c.name, len(got), e)
		}
		for _, sides := range [][2]int{{1, 1}, {1, 5}, {5, 1}, {200, 200}, {1, api.MaxCells}, {api.MaxCells, 1}} {
			p := numbered(sides[0], sides[1])
			if got, e := c.pattern(p); e != api.OK || len(got.Cells) != len(p.Cells) {
				t.Errorf("%s of %d by %d: %d cells, error %d", c.name, p.Width, p.Height, len(got.Cells), e)
			}
		}
	}
}

func TestChangesRefuse(t *testing.T) {
	for _, c := range allChanges {
		for name, set := range invalidSets() {
			if got, e := c.set(set); e != api.ErrForm || len(got) != 0 {
				t.Errorf("%s, %s: %v, error %d", c.name, name, got, e)
			}
		}
		for name, p := range invalidPatterns() {
			got, e := c.pattern(p)
			wantNoPattern(t, c.name+", "+name, got, e, api.ErrForm)
		}
	}
}

// P1.3: what is a pattern, or a torus, remains one if the set is changed in the same way; what is none, too.
func TestChangedTogether(t *testing.T) {
	eachPattern(func(set []api.Tile, p api.Pattern) {
		for _, c := range allChanges {
			changed, e := c.set(set)
			q, f := c.pattern(p)
			if e != api.OK || f != api.OK {
				t.Fatalf("%s of %v and %v: errors %d, %d", c.name, set, p, e, f)
			}
			if tile.Fits(changed, q) != tile.Fits(set, p) || tile.Repeats(changed, q) != tile.Repeats(set, p) {
				t.Fatalf("%s of %v and %v: %v and %v", c.name, set, p, changed, q)
			}
		}
	})
}

// P1.3: four turns, two mirrors and two upturns change nothing; fewer do.
func TestChangesComeBack(t *testing.T) {
	set := []api.Tile{{N: 1, E: 2, S: 3, W: 4}, {N: 1, E: 1, S: 2, W: 3}}
	p := numbered(4, 3)
	for _, c := range allChanges {
		nextSet, nextPattern := set, p
		for n := 1; n <= c.order; n++ {
			var e, f api.Errno
			nextSet, e = c.set(nextSet)
			nextPattern, f = c.pattern(nextPattern)
			if e != api.OK || f != api.OK {
				t.Fatalf("%s: errors %d, %d", c.name, e, f)
			}
			if back := slices.Equal(nextSet, set); back != (n == c.order) {
				t.Errorf("%d times %s of the set: %v", n, c.name, nextSet)
			}
			if back := samePattern(nextPattern, p); back != (n == c.order) {
				t.Errorf("%d times %s of the pattern: %v", n, c.name, nextPattern)
			}
		}
	}
}
