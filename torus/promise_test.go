package torus_test

import (
	"slices"
	"testing"

	"groutwork/api"
	"groutwork/tile"
)

// someSets returns sets with few and with many tori.
func someSets(t *testing.T) [][]api.Tile {
	sets := slices.Concat(mixedSets(60, 2, 2), mixedSets(80, 3, 2), mixedSets(40, 3, 3), mixedSets(15, 4, 2), mixedSets(15, 4, 3))
	return append(sets, nil, parse(t, chess), parse(t, stack), parse(t, fives), []api.Tile{{}}, rigid(2, 2, 7), rigid(1, 3, 0), rigid(3, 1, 0))
}

// found is which sizes of tori a set has, by width and height.
type found [api.MaxPeriod + 1][api.MaxPeriod + 1]bool

// eachFound calls f with sets, and which sizes of tori they have. exists checks that what is returned is a torus.
func eachFound(t *testing.T, f func(set []api.Tile, has found)) {
	some, none := 0, 0
	for _, set := range someSets(t) {
		var has found
		for width := 1; width <= api.MaxPeriod; width++ {
			for height := 1; height <= api.MaxPeriod; height++ {
				has[width][height] = exists(t, set, width, height)
				if has[width][height] {
					some++
				} else {
					none++
				}
			}
		}
		f(set, has)
	}
	if some == 0 || none == 0 {
		t.Errorf("%d are there, %d are not", some, none)
	}
}

// P3.1: what is returned is a torus of the set; repeated, it is a pattern of the set.
func TestRight(t *testing.T) {
	eachFound(t, func(set []api.Tile, has found) {
		for width := 1; width <= api.MaxPeriod; width++ {
			for height := 1; height <= api.MaxPeriod; height++ {
				if !has[width][height] {
					continue
				}
				wall, e := tile.Repeat(wantTorus(t, set, width, height), 2*width+1, 2*height+1)
				if e != api.OK || !tile.Fits(set, wall) {
					t.Fatalf("%v, %d by %d: repeated: %v, error %d", set, width, height, wall, e)
				}
			}
		}
	})
}

// P3.2: if there is a torus of some size, there is one of each multiple of its sides.
func TestMultiples(t *testing.T) {
	eachFound(t, func(set []api.Tile, has found) {
		for width := 1; width <= api.MaxPeriod; width++ {
			for height := 1; height <= api.MaxPeriod; height++ {
				for w := width; w <= api.MaxPeriod; w += width {
					for h := height; h <= api.MaxPeriod; h += height {
						if has[width][height] && !has[w][h] {
							t.Fatalf("%v: %d by %d, but not %d by %d", set, width, height, w, h)
						}
					}
				}
			}
		}
	})
}

// souths returns how many colours occur as S in the set.
func souths(set []api.Tile) int {
	colours := map[int]bool{}
	for _, t := range set {
		colours[t.S] = true
	}
	return len(colours)
}

// P3.3: if there is a torus of a width, there is one whose height is at most the number of lists of colours that occur as S.
func TestRows(t *testing.T) {
	checked := 0
	eachFound(t, func(set []api.Tile, has found) {
		for width := 1; width <= api.MaxPeriod; width++ {
			bound := len(lists(souths(set), width))
			if bound >= api.MaxPeriod || !slices.Contains(has[width][:], true) {
				continue
			}
			checked++
			if !slices.Contains(has[width][:bound+1], true) {
				t.Errorf("%v: no torus of width %d with a height up to %d", set, width, bound)
			}
		}
	})
	if checked == 0 {
		t.Error("nothing is checked")
	}
}

// P3.3: the bound is met: a torus of one column with as many rows as colours occur as S, and no lower one.
func TestRowsBound(t *testing.T) {
	for bound := 1; bound <= api.MaxPeriod; bound++ {
		set := rigid(1, bound, 0)
		for height := 1; height <= bound; height++ {
			if got := exists(t, set, 1, height); got != (height == bound) {
				t.Errorf("%d colours, height %d: %v", bound, height, got)
			}
		}
	}
}

// A turned set has the turned tori: they are looked for by columns instead of rows.
func TestTurned(t *testing.T) {
	changes := []struct {
		set   func([]api.Tile) ([]api.Tile, api.Errno)
		turns bool
	}{{tile.Mirror, false}, {tile.Upturn, false}, {tile.Turn, true}}
	eachFound(t, func(set []api.Tile, has found) {
		for _, c := range changes {
			changed, e := c.set(set)
			if e != api.OK {
				t.Fatalf("error %d", e)
			}
			for width := 1; width <= api.MaxPeriod; width++ {
				for height := 1; height <= api.MaxPeriod; height++ {
					w, h := width, height
					if c.turns {
						w, h = height, width
					}
					if exists(t, changed, w, h) != has[width][height] {
						t.Fatalf("%v: %d by %d is %v, but not of %v", set, width, height, has[width][height], changed)
					}
				}
			}
		}
	})
}
