package strip_test

import (
	"slices"
	"testing"

	"groutwork/api"
	"groutwork/strip"
	"groutwork/tile"
)

const (
	// chess is two tiles that alternate like a chessboard.
	chess = "0.1.1.0 1.0.0.1"
	// steps is two tiles of which the second one fits to the east of the first one.
	steps = "0.1.0.0 0.2.0.1"
	// fives is four tiles whose least torus is 5 by 5.
	fives = "0.1.2.0 2.0.1.0 2.0.2.1 1.1.0.0"
)

const least, greatest = -1 << 63, 1<<63 - 1

// parse returns the set of a text that has to be accepted.
func parse(t *testing.T, s string) []api.Tile {
	t.Helper()
	set, e := tile.Parse(s)
	if e != api.OK {
		t.Fatalf("Parse(%q): error %d", s, e)
	}
	return set
}

// lists returns all lists of n numbers from 0 to most - 1, in order.
func lists(most, n int) [][]int {
	all := [][]int{{}}
	for range n {
		var longer [][]int
		for _, l := range all {
			for i := range most {
				longer = append(longer, append(slices.Clone(l), i))
			}
		}
		all = longer
	}
	return all
}

// mixedSets returns sets of n tiles with colours from 0 to colours - 1, as different as a simple rule makes them.
func mixedSets(sets, n, colours int) [][]api.Tile {
	state := uint32(1)
	next := func() int {
		state = state*1664525 + 1013904223
		return int(state>>16) % colours
	}
	var all [][]api.Tile
	for range sets {
		var set []api.Tile
		for len(set) < n {
			if t := (api.Tile{N: next(), E: next(), S: next(), W: next()}); !slices.Contains(set, t) {
				set = append(set, t)
			}
		}
		all = append(all, set)
	}
	return all
}

// pairSets returns all sets of up to two tiles over two colours.
func pairSets() [][]api.Tile {
	sets := [][]api.Tile{nil}
	all := lists(2, 4)
	for _, a := range all {
		one := api.Tile{N: a[0], E: a[1], S: a[2], W: a[3]}
		sets = append(sets, []api.Tile{one})
		for _, b := range all {
			if two := (api.Tile{N: b[0], E: b[1], S: b[2], W: b[3]}); one != two {
				sets = append(sets, []api.Tile{one, two})
			}
		}
	}
	return sets
}

// someSets returns sets with and without a core, and with long and with endless rows.
func someSets(t *testing.T) [][]api.Tile {
	sets := slices.Concat(pairSets(), mixedSets(100, 3, 2), mixedSets(100, 3, 3), mixedSets(60, 4, 3), mixedSets(60, 4, 5), mixedSets(30, 5, 4))
	return append(sets, parse(t, chess), parse(t, steps), parse(t, fives))
}

// longRow returns n tiles each of which has only the next one to its east, and itself to its north.
func longRow(n int) []api.Tile {
	var set []api.Tile
	for i := range n {
		set = append(set, api.Tile{N: i % 7, E: (i + 1) % api.MaxColours, S: i % 7, W: i})
	}
	return set
}

// restOf returns the tiles with these indices.
func restOf(set []api.Tile, indices []int) []api.Tile {
	var rest []api.Tile
	for _, i := range indices {
		rest = append(rest, set[i])
	}
	return rest
}

func coreOf(t *testing.T, set []api.Tile) []int {
	t.Helper()
	core, e := strip.Core(set)
	if e != api.OK {
		t.Fatalf("Core of %v: error %d", set, e)
	}
	return core
}

// longest returns the result of Rows, or -1 if there are rows of every length.
func longest(t *testing.T, set []api.Tile) int {
	t.Helper()
	n, e := strip.Rows(set)
	if e == api.ErrNone && n == 0 {
		return -1
	}
	if e != api.OK {
		t.Fatalf("Rows of %v: %d, error %d", set, n, e)
	}
	return n
}

func textOf(t *testing.T, set []api.Tile) string {
	t.Helper()
	s, e := tile.Text(set)
	if e != api.OK {
		t.Fatalf("Text of %v: error %d", set, e)
	}
	return s
}

// wantOn checks that On returns a valid set, and as many pairs of indices, and returns both.
func wantOn(t *testing.T, a, b []api.Tile) ([]api.Tile, [][2]int) {
	t.Helper()
	set, from, e := strip.On(a, b)
	if e != api.OK || !tile.Valid(set) || len(set) != len(from) {
		t.Fatalf("On of %v and %v: %v, %v, error %d", a, b, set, from, e)
	}
	return set, from
}

// wantNoPath checks an error of Path and that there is no row with it.
func wantNoPath(t *testing.T, set []api.Tile, from, to, n int, want api.Errno) {
	t.Helper()
	path, e := strip.Path(set, from, to, n)
	if e != want || len(path) != 0 {
		t.Errorf("Path of %d tiles from %d to %d, %d: %v, error %d, want %d", len(set), from, to, n, path, e, want)
	}
}

// wantNoOn checks an error of On and that there are no tiles with it.
func wantNoOn(t *testing.T, what string, a, b []api.Tile, want api.Errno) {
	t.Helper()
	set, from, e := strip.On(a, b)
	if e != want || len(set) != 0 || len(from) != 0 {
		t.Errorf("On, %s: %d tiles, %d pairs, error %d, want %d", what, len(set), len(from), e, want)
	}
}
