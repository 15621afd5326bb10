package torus_test

import (
	"slices"
	"testing"

	"groutwork/api"
	"groutwork/tile"
	"groutwork/torus"
)

const (
	// chess is two tiles that alternate like a chessboard.
	chess = "0.1.1.0 1.0.0.1"
	// stack is three tiles that lie on each other in turn, beside each other in any order.
	stack = "1.0.0.0 2.0.1.0 0.0.2.0"
	// fives is four tiles whose least torus is 5 by 5.
	fives = "0.1.2.0 2.0.1.0 2.0.2.1 1.1.0.0"
)

const least, greatest = -1 << 63, 1<<63 - 1

// parse returns the set of a text that has to be accepted.
func parse(t *testing.T, s string) []api.Tile {
	t.Helper()
	set, e := tile.Parse(s)
	if e != api.OK {
		t.Fatalf("Parse(%q): error %d", s, e)
	}
	return set
}

func samePattern(p, q api.Pattern) bool {
	return p.Width == q.Width && p.Height == q.Height && slices.Equal(p.Cells, q.Cells)
}

// lists returns all lists of n numbers from 0 to most - 1, in order.
func lists(most, n int) [][]int {
	all := [][]int{{}}
	for range n {
		var longer [][]int
		for _, l := range all {
			for i := range most {
				longer = append(longer, append(slices.Clone(l), i))
			}
		}
		all = longer
	}
	return all
}

// mixedSets returns sets of n tiles with colours from 0 to colours - 1, as different as a simple rule makes them.
func mixedSets(sets, n, colours int) [][]api.Tile {
	state := uint32(1)
	next := func() int {
		state = state*1664525 + 1013904223
		return int(state>>16) % colours
	}
	var all [][]api.Tile
	for range sets {
		var set []api.Tile
		for len(set) < n {
			if t := (api.Tile{N: next(), E: next(), S: next(), W: next()}); !slices.Contains(set, t) {
				set = append(set, t)
			}
		}
		all = append(all, set)
	}
	return all
}

// rigid returns a set whose tori are those of width times height cells that differ, and their multiples. Its colours are from first on.
func rigid(width, height, first int) []api.Tile {
	var set []api.Tile
	for i := range width * height {
		x, y := i%width, i/width
		north, east := (y+1)%height*width+x, y*width+(x+1)%width
		set = append(set, api.Tile{N: first + north, E: first + east, S: first + i, W: first + i})
	}
	return set
}

// manyTiles returns n tiles that fit beside each other in any order, and lie on each other in turn.
func manyTiles(n int) []api.Tile {
	var set []api.Tile
	for i := range n {
		set = append(set, api.Tile{N: (i + 1) % n, S: i})
	}
	return set
}

// manyLoops returns n tiles that fit beside each other in any order, and each of which lies on itself.
func manyLoops(n int) []api.Tile {
	var set []api.Tile
	for i := range n {
		set = append(set, api.Tile{N: i, S: i})
	}
	return set
}

// wantTorus checks that Find returns a torus of the set of this size.
func wantTorus(t *testing.T, set []api.Tile, width, height int) api.Pattern {
	t.Helper()
	p, e := torus.Find(set, width, height)
	if e != api.OK || p.Width != width || p.Height != height || !tile.Repeats(set, p) {
		t.Fatalf("Find of %v, %d by %d: %v, error %d", set, width, height, p, e)
	}
	return p
}

// wantNone checks an error and that the pattern with it is the zero value.
func wantNone(t *testing.T, what string, p api.Pattern, e, want api.Errno) {
	t.Helper()
	if e != want || p.Width != 0 || p.Height != 0 || len(p.Cells) != 0 {
		t.Errorf("%s: %v, error %d, want %d", what, p, e, want)
	}
}

// exists reports whether Find finds a torus; it must find one or none.
func exists(t *testing.T, set []api.Tile, width, height int) bool {
	t.Helper()
	p, e := torus.Find(set, width, height)
	if e == api.ErrNone {
		wantNone(t, "Find", p, e, api.ErrNone)
		return false
	}
	wantTorus(t, set, width, height)
	return true
}
