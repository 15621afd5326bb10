package square_test

import (
	"slices"
	"testing"

	"groutwork/api"
	"groutwork/square"
	"groutwork/tile"
)

const (
	// chess is two tiles that alternate like a chessboard.
	chess = "0.1.1.0 1.0.0.1"
	// fives is four tiles whose least torus is 5 by 5.
	fives = "0.1.2.0 2.0.1.0 2.0.2.1 1.1.0.0"
	// threes and fours are four tiles each, with which squares of a side up to 3 and up to 4 can be filled.
	threes = "0.2.0.1 1.2.1.1 1.1.2.2 2.2.0.2"
	fours  = "2.2.1.2 1.1.0.0 0.2.2.2 1.0.2.1"
)

const least, greatest = -1 << 63, 1<<63 - 1

// parse returns the set of a text that has to be accepted.
func parse(t *testing.T, s string) []api.Tile {
	t.Helper()
	set, e := tile.Parse(s)
	if e != api.OK {
		t.Fatalf("Parse(%q): error %d", s, e)
	}
	return set
}

// lists returns all lists of n numbers from 0 to most - 1, in order.
func lists(most, n int) [][]int {
	all := [][]int{{}}
	for range n {
		var longer [][]int
		for _, l := range all {
			for i := range most {
				longer = append(longer, append(slices.Clone(l), i))
			}
		}
		all = longer
	}
	return all
}

// mixedSets returns sets of n tiles with colours from 0 to colours - 1, as different as a simple rule makes them.
func mixedSets(sets, n, colours int) [][]api.Tile {
	state := uint32(1)
	next := func() int {
		state = state*1664525 + 1013904223
		return int(state>>16) % colours
	}
	var all [][]api.Tile
	for range sets {
		var set []api.Tile
		for len(set) < n {
			if t := (api.Tile{N: next(), E: next(), S: next(), W: next()}); !slices.Contains(set, t) {
				set = append(set, t)
			}
		}
		all = append(all, set)
	}
	return all
}

// pairSets returns all sets of up to two tiles over two colours.
func pairSets() [][]api.Tile {
	sets := [][]api.Tile{nil}
	all := lists(2, 4)
	for _, a := range all {
		one := api.Tile{N: a[0], E: a[1], S: a[2], W: a[3]}
		sets = append(sets, []api.Tile{one})
		for _, b := range all {
			if two := (api.Tile{N: b[0], E: b[1], S: b[2], W: b[3]}); one != two {
				sets = append(sets, []api.Tile{one, two})
			}
		}
	}
	return sets
}

// someSets returns sets with greatest squares of different sides, and some with squares of every side.
func someSets(t *testing.T) [][]api.Tile {
	sets := slices.Concat(pairSets(), mixedSets(60, 3, 2), mixedSets(60, 3, 3), mixedSets(20, 4, 3), mixedSets(10, 5, 4))
	sets = append(sets, parse(t, chess), parse(t, fives), parse(t, threes), parse(t, fours))
	return append(sets, block(3, 1), block(1, 3), block(2, 2), block(4, 1), block(1, 5))
}

// block returns tiles that differ, and fit together in one way only: a rectangle, which repeats in the direction of a side of one tile.
func block(width, height int) []api.Tile {
	var set []api.Tile
	for i := range width * height {
		x, y := i%width, i/width
		t := api.Tile{N: (y+1)*width + x, E: y*(width+1) + x + 1, S: y*width + x, W: y*(width+1) + x}
		if width == 1 {
			t.E = t.W
		}
		if height == 1 {
			t.N = t.S
		}
		set = append(set, t)
	}
	return set
}

// manyTiles returns n tiles that fit beside each other in any order, and each of which lies on itself.
func manyTiles(n int) []api.Tile {
	var set []api.Tile
	for i := range n {
		set = append(set, api.Tile{N: i, S: i})
	}
	return set
}

// strangers returns n tiles none of which fits beside any.
func strangers(n int) []api.Tile {
	var set []api.Tile
	for i := range n {
		set = append(set, api.Tile{N: i, E: 1, S: i})
	}
	return set
}

// mostTiles returns how many tiles 5000 lists of a side allow.
func mostTiles(side int) int {
	return [api.MaxSide + 1]int{0, api.MaxTiles, 70, 17, 8, 5, 4, 3, 2}[side]
}

// mostSide returns the greatest side that so many tiles have to be asked for.
func mostSide(tiles int) int {
	side := api.MaxSide
	for tiles > mostTiles(side) {
		side--
	}
	return side
}

// exists returns the result of Exists, which has to be OK.
func exists(t *testing.T, set []api.Tile, side int) bool {
	t.Helper()
	is, e := square.Exists(set, side)
	if e != api.OK {
		t.Fatalf("Exists of %v, %d: error %d", set, side, e)
	}
	return is
}

// wantLargest checks both results of Largest.
func wantLargest(t *testing.T, what string, set []api.Tile, most, want int, wantE api.Errno) {
	t.Helper()
	n, e := square.Largest(set, most)
	if e != wantE || n != want {
		t.Errorf("Largest, %s, %d: %d, error %d, want %d, error %d", what, most, n, e, want, wantE)
	}
}

// wantError checks that both functions return an error, and zero values with it.
func wantError(t *testing.T, what string, set []api.Tile, side int, want api.Errno) {
	t.Helper()
	if is, e := square.Exists(set, side); e != want || is {
		t.Errorf("Exists, %s, %d: %v, error %d, want %d", what, side, is, e, want)
	}
	wantLargest(t, what, set, side, 0, want)
}
