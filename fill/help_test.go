package fill_test

import (
	"slices"
	"testing"

	"groutwork/api"
	"groutwork/fill"
	"groutwork/tile"
)

const (
	// chess is two tiles that alternate like a chessboard.
	chess = "0.1.1.0 1.0.0.1"
	// free is four tiles that fit beside each other in any order: each column of height h is a list of h + 1 colours.
	free = "0.0.0.0 0.0.1.0 1.0.0.0 1.0.1.0"
	// dominoes is the halves of dominoes: the west, the east, the south and the north one.
	dominoes = "0.1.0.0 0.0.0.1 1.0.0.0 0.0.1.0"
)

const least, greatest = -1 << 63, 1<<63 - 1

// parse returns the set of a text that has to be accepted.
func parse(t *testing.T, s string) []api.Tile {
	t.Helper()
	set, e := tile.Parse(s)
	if e != api.OK {
		t.Fatalf("Parse(%q): error %d", s, e)
	}
	return set
}

// times returns a list of n equal numbers.
func times(n, number int) []int { return slices.Repeat([]int{number}, n) }

// zeros returns the edges of a rectangle all of whose colours are 0.
func zeros(width, height int) api.Edges {
	return api.Edges{North: times(width, 0), East: times(height, 0), South: times(width, 0), West: times(height, 0)}
}

// edgesOf returns the edges that a pattern of a set has.
func edgesOf(set []api.Tile, p api.Pattern) api.Edges {
	var edges api.Edges
	for i, index := range p.Cells {
		t := set[index]
		if i/p.Width == 0 {
			edges.South = append(edges.South, t.S)
		}
		if i/p.Width == p.Height-1 {
			edges.North = append(edges.North, t.N)
		}
		if i%p.Width == 0 {
			edges.West = append(edges.West, t.W)
		}
		if i%p.Width == p.Width-1 {
			edges.East = append(edges.East, t.E)
		}
	}
	return edges
}

// has reports whether a pattern of a set has edges.
func has(set []api.Tile, p api.Pattern, want api.Edges) bool {
	got := edgesOf(set, p)
	same := func(a, b []int) bool { return len(b) == 0 || slices.Equal(a, b) }
	return same(got.North, want.North) && same(got.East, want.East) && same(got.South, want.South) && same(got.West, want.West)
}

// patterns returns all patterns of a set of a size, by the order of their cells: of all lists of indices, those that fit.
func patterns(set []api.Tile, width, height int) []api.Pattern {
	var fitting []api.Pattern
	for _, cells := range lists(len(set), width*height) {
		if p := (api.Pattern{Width: width, Height: height, Cells: cells}); tile.Fits(set, p) {
			fitting = append(fitting, p)
		}
	}
	return fitting
}

// lists returns all lists of n numbers from 0 to most - 1, in order.
func lists(most, n int) [][]int {
	all := [][]int{{}}
	for range n {
		var longer [][]int
		for _, l := range all {
			for i := range most {
				longer = append(longer, append(slices.Clone(l), i))
			}
		}
		all = longer
	}
	return all
}

// options returns the free edge and all edges of n colours from 0 to most - 1.
func options(most, n int) [][]int {
	return append([][]int{nil}, lists(most, n)...)
}

// mixedSets returns sets of n tiles with colours from 0 to colours - 1, as different as a simple rule makes them.
func mixedSets(sets, n, colours int) [][]api.Tile {
	state := uint32(1)
	next := func() int {
		state = state*1664525 + 1013904223
		return int(state>>16) % colours
	}
	var all [][]api.Tile
	for range sets {
		var set []api.Tile
		for len(set) < n {
			if t := (api.Tile{N: next(), E: next(), S: next(), W: next()}); !slices.Contains(set, t) {
				set = append(set, t)
			}
		}
		all = append(all, set)
	}
	return all
}

// manyTiles returns n tiles that differ in their N and S, and fit beside each other in any order.
func manyTiles(n int) []api.Tile {
	var set []api.Tile
	for i := range n {
		set = append(set, api.Tile{N: i % api.MaxColours, S: i % api.MaxColours, E: i / api.MaxColours, W: i / api.MaxColours})
	}
	return set
}

// count returns a Count that has to be OK.
func count(t *testing.T, set []api.Tile, width, height int, edges api.Edges) int {
	t.Helper()
	n, e := fill.Count(set, width, height, edges)
	if e != api.OK {
		t.Fatalf("Count of %v, %d by %d, %v: error %d", set, width, height, edges, e)
	}
	return n
}

// wantError checks that both functions return an error, and zero values with it. ErrNone is that of First only.
func wantError(t *testing.T, what string, set []api.Tile, width, height int, edges api.Edges, want api.Errno) {
	t.Helper()
	p, e := fill.First(set, width, height, edges)
	if e != want || p.Width != 0 || p.Height != 0 || len(p.Cells) != 0 {
		t.Errorf("%s: First returns %v, error %d, want %d", what, p, e, want)
	}
	if want == api.ErrNone {
		want = api.OK
	}
	if n, e := fill.Count(set, width, height, edges); e != want || n != 0 {
		t.Errorf("%s: Count returns %d, error %d, want %d", what, n, e, want)
	}
}

// wantPattern checks that First returns a pattern of the set of this size with these edges.
func wantPattern(t *testing.T, set []api.Tile, width, height int, edges api.Edges) api.Pattern {
	t.Helper()
	p, e := fill.First(set, width, height, edges)
	if e != api.OK || p.Width != width || p.Height != height || !tile.Fits(set, p) || !has(set, p, edges) {
		t.Fatalf("First of %v, %d by %d, %v: %v, error %d", set, width, height, edges, p, e)
	}
	return p
}
