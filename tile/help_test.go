package tile_test

import (
	"slices"
	"testing"

	"groutwork/api"
	"groutwork/tile"
)

const chess = "0.1.1.0 1.0.0.1"

// parse returns the set of a text that has to be accepted.
func parse(t *testing.T, s string) []api.Tile {
	t.Helper()
	set, e := tile.Parse(s)
	if e != api.OK {
		t.Fatalf("Parse(%q): error %d", s, e)
	}
	return set
}

// chessboard returns a torus of the set of chess.
func chessboard() api.Pattern {
	return api.Pattern{Width: 2, Height: 2, Cells: []int{0, 1, 1, 0}}
}

// numbered returns a pattern all of whose cells differ.
func numbered(width, height int) api.Pattern {
	p := api.Pattern{Width: width, Height: height}
	for i := range width * height {
		p.Cells = append(p.Cells, 10+i)
	}
	return p
}

func samePattern(p, q api.Pattern) bool {
	return p.Width == q.Width && p.Height == q.Height && slices.Equal(p.Cells, q.Cells)
}

func copyPattern(p api.Pattern) api.Pattern {
	return api.Pattern{Width: p.Width, Height: p.Height, Cells: slices.Clone(p.Cells)}
}

// manyTiles returns n tiles that differ, with colours from 0 to MaxColours - 1.
func manyTiles(n int) []api.Tile {
	var set []api.Tile
	for i := range n {
		set = append(set, api.Tile{N: i % api.MaxColours, E: 999, S: i / api.MaxColours, W: 998})
	}
	return set
}

// smallSets returns sets of up to three tiles over few colours: all of up to two tiles over the colours 0 and 1, and some of three.
func smallSets() [][]api.Tile {
	var tiles []api.Tile
	for i := range 16 {
		tiles = append(tiles, api.Tile{N: i >> 3 & 1, E: i >> 2 & 1, S: i >> 1 & 1, W: i & 1})
	}
	sets := [][]api.Tile{nil}
	for i, a := range tiles {
		sets = append(sets, []api.Tile{a})
		for j, b := range tiles {
			if i == j {
				continue
			}
			sets = append(sets, []api.Tile{a, b})
			if c := (i*5 + j*3) % 16; c != i && c != j {
				sets = append(sets, []api.Tile{a, b, tiles[c]})
			}
		}
	}
	return sets
}

// patternsUpTo returns all patterns of a set with sides up to 2, and with 3 by 1, 1 by 3 and 3 by 2 cells, without regard to whether they are patterns of the set.
func patternsUpTo(tiles int) []api.Pattern {
	var patterns []api.Pattern
	for _, sides := range [][2]int{{1, 1}, {2, 1}, {1, 2}, {3, 1}, {1, 3}, {2, 2}, {3, 2}} {
		total := 1
		for range sides[0] * sides[1] {
			total *= tiles
		}
		for number := range total {
			p := api.Pattern{Width: sides[0], Height: sides[1]}
			for range sides[0] * sides[1] {
				p.Cells = append(p.Cells, number%tiles)
				number /= tiles
			}
			patterns = append(patterns, p)
		}
	}
	return patterns
}

// eachPattern calls f with all small sets and the patterns over as many tiles.
func eachPattern(f func(set []api.Tile, p api.Pattern)) {
	for _, set := range smallSets() {
		for _, p := range patternsUpTo(len(set)) {
			f(set, p)
		}
	}
}

// namedChange is a change of sets, with that of patterns, and how often it has to be done until nothing is changed.
type namedChange struct {
	name    string
	set     func([]api.Tile) ([]api.Tile, api.Errno)
	pattern func(api.Pattern) (api.Pattern, api.Errno)
	order   int
}

var allChanges = []namedChange{
	{"mirror", tile.Mirror, tile.MirrorPattern, 2},
	{"upturn", tile.Upturn, tile.UpturnPattern, 2},
	{"turn", tile.Turn, tile.TurnPattern, 4},
}

// invalidSets returns a set for each way of not being valid.
func invalidSets() map[string][]api.Tile {
	return map[string][]api.Tile{
		"negative north":     {{N: -1}},
		"negative east":      {{E: -1}},
		"negative south":     {{S: -1}},
		"negative west":      {{W: -1}},
		"great north":        {{N: api.MaxColours}},
		"great east":         {{E: api.MaxColours}},
		"great south":        {{S: api.MaxColours}},
		"great west":         {{W: api.MaxColours}},
		"greatest int":       {{}, {N: 1<<63 - 1}},
		"least int":          {{}, {W: -1 << 63}},
		"equal neighbours":   {{N: 1}, {N: 1}},
		"equal first, last":  {{N: 1}, {N: 2}, {N: 3}, {N: 1}},
		"last is not valid":  {{N: 1}, {N: 2}, {N: 1000}},
		"too many tiles":     manyTiles(api.MaxTiles + 1),
		"too many and equal": make([]api.Tile, api.MaxTiles+1),
	}
}

// invalidPatterns returns a pattern for each way of not having the form of one.
func invalidPatterns() map[string]api.Pattern {
	return map[string]api.Pattern{
		"zero value":           {},
		"no cells":             {Width: 1, Height: 1},
		"width 0":              {Width: 0, Height: 1},
		"height 0":             {Width: 1, Height: 0},
		"width 0 with a cell":  {Width: 0, Height: 1, Cells: []int{0}},
		"height 0 with a cell": {Width: 1, Height: 0, Cells: []int{0}},
		"negative sides":       {Width: -1, Height: -1, Cells: []int{0}},
		"negative width":       {Width: -2, Height: 1, Cells: []int{0, 0}},
		"negative height":      {Width: 1, Height: -2, Cells: []int{0, 0}},
		"too few cells":        {Width: 2, Height: 2, Cells: make([]int, 3)},
		"too many cells":       {Width: 2, Height: 2, Cells: make([]int, 5)},
		"more than MaxCells":   {Width: api.MaxCells + 1, Height: 1, Cells: make([]int, api.MaxCells+1)},
		"201 by 200":           {Width: 201, Height: 200, Cells: make([]int, 201*200)},
		"product overflows":    {Width: 1 << 62, Height: 4},
		"overflows to 4":       {Width: 1<<62 + 1, Height: 4, Cells: make([]int, 4)},
		"overflows, exchanged": {Width: 4, Height: 1<<62 + 1, Cells: make([]int, 4)},
		"least ints":           {Width: -1 << 63, Height: -1 << 63},
		"least int, -1":        {Width: -1 << 63, Height: -1},
	}
}

// wantNoPattern checks an error and that the pattern with it is the zero value.
func wantNoPattern(t *testing.T, what string, p api.Pattern, e, want api.Errno) {
	t.Helper()
	if e != want {
		t.Errorf("%s: error %d, want %d", what, e, want)
	}
	if p.Width != 0 || p.Height != 0 || len(p.Cells) != 0 {
		t.Errorf("%s: a pattern together with an error: %v", what, p)
	}
}
