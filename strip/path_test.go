package strip_test

import (
	"slices"
	"testing"

	"groutwork/api"
	"groutwork/strip"
)

func TestPathExamples(t *testing.T) {
	for _, c := range []struct {
		set         string
		from, to, n int
		want        []int
	}{
		{chess, 0, 1, 3, []int{0, 1, 0}},
		{chess, 1, 1, 2, []int{1, 0}},
		{chess, 0, 0, 3, nil},
		{chess, 0, -7, 3, nil},
		{chess, 2, 1, 3, nil},
		{"", 0, 0, 1, nil},
		{"0.1.0.0", 0, 1, 1, []int{0}},
		{"0.1.0.0", 1, 0, 1, nil},
		{"0.1.0.0", 0, 0, 1, nil},
		{"0.1.0.0", 1, 1, 1, nil},
		{"0.1.0.0", 0, 1, 2, nil},
		{steps, 0, 2, 2, []int{0, 1}},
		{steps, 0, 1, 2, nil},
		{steps, 0, 2, 1, nil},
		{steps, 1, 2, 1, []int{1}},
		// Of tiles with the same ends the first one, whatever their other colours.
		{"5.1.5.0 0.1.0.0 0.2.0.1 7.2.0.1", 0, 2, 2, []int{0, 2}},
		// The first tile leads on, but not to the end.
		{"0.1.0.0 0.2.0.0 0.3.0.2", 0, 3, 2, []int{1, 2}},
		{"0.1.0.0 0.2.0.0 0.3.0.2 0.4.0.1", 0, 3, 2, []int{1, 2}},
		// The first tile leads to the end, but with another number of tiles.
		{"0.3.0.0 0.2.0.0 0.3.0.2", 0, 3, 2, []int{1, 2}},
		{"0.1.0.0 0.1.0.1 0.2.0.0 0.3.0.1 0.3.0.2", 0, 3, 2, []int{0, 3}},
		{"0.1.0.0 0.1.0.1 0.2.0.0 0.3.0.1 0.3.0.2", 0, 3, 4, []int{0, 1, 1, 3}},
		// A tile may occur again; the end may be passed before.
		{"0.0.0.0", 0, 0, 5, []int{0, 0, 0, 0, 0}},
		{"0.1.0.0 0.0.0.0", 0, 1, 4, []int{1, 1, 1, 0}},
		{"0.1.0.0 0.0.0.1 0.0.0.0", 0, 0, 5, []int{0, 1, 0, 1, 2}},
		{"0.1.0.0 0.0.0.1 0.0.0.0", 0, 1, 4, []int{0, 1, 2, 0}},
		{"0.999.0.998 0.998.0.999", 999, 999, 2, []int{1, 0}},
		{"0.999.0.64 0.64.0.999", 0, 999, 1, nil},
	} {
		set := parse(t, c.set)
		if c.want == nil {
			wantNoPath(t, set, c.from, c.to, c.n, api.ErrNone)
			continue
		}
		path, e := strip.Path(set, c.from, c.to, c.n)
		if e != api.OK || !slices.Equal(path, c.want) {
			t.Errorf("%s from %d to %d, %d: %v, error %d, want %v", c.set, c.from, c.to, c.n, path, e, c.want)
		}
	}
}

// The greatest number of tiles, with the greatest sets.
func TestLongestPaths(t *testing.T) {
	loop := longRow(api.MaxTiles)
	path, e := strip.Path(loop, 7, 7, api.MaxCells)
	if e != api.OK || len(path) != api.MaxCells {
		t.Fatalf("%d tiles, error %d", len(path), e)
	}
	for x, i := range path {
		if i != (x+7)%api.MaxTiles {
			t.Fatalf("tile %d of the row is %d", x, i)
		}
	}
	wantNoPath(t, loop, 7, 6, api.MaxCells, api.ErrNone)
	wantNoPath(t, loop, 7, 7, api.MaxCells-1, api.ErrNone)

	// The first tiles lead nowhere, and the row has to end with the last tile.
	var set []api.Tile
	for i := range api.MaxTiles - 2 {
		set = append(set, api.Tile{E: 1 + i, W: 0})
	}
	set = append(set, api.Tile{}, api.Tile{E: 999, W: 0})
	path, e = strip.Path(set, 0, 999, api.MaxCells)
	if e != api.OK || len(path) != api.MaxCells || path[api.MaxCells-1] != 999 {
		t.Fatalf("%d tiles, error %d", len(path), e)
	}
	for x, i := range path[:api.MaxCells-1] {
		if i != 998 {
			t.Fatalf("tile %d of the row is %d", x, i)
		}
	}
}

func TestPathRefusesNumbers(t *testing.T) {
	ends := []int{least, -1, 0, 1, 2, api.MaxColours, greatest}
	for _, set := range [][]api.Tile{nil, {{}}, parse(t, chess), longRow(api.MaxTiles)} {
		for _, n := range []int{least, least + 1, -1, 0, api.MaxCells + 1, 1 << 32, 1<<32 + 1, greatest} {
			for _, end := range ends {
				wantNoPath(t, set, 0, end, n, api.ErrArg)
				wantNoPath(t, set, end, 0, n, api.ErrArg)
			}
		}
	}
}

// Ends may be any numbers. Those that are no colours are at the ends of no row.
func TestPathOfNoColours(t *testing.T) {
	for _, set := range [][]api.Tile{nil, {{}}, parse(t, chess), longRow(api.MaxTiles)} {
		for _, end := range []int{least, least + 1, -1 << 32, -1000, -64, -7, -1, api.MaxColours, 1001, 1023, 1024, 1 << 32, 1<<62 + 1, greatest} {
			for _, n := range []int{1, 2, 3, api.MaxColours, api.MaxCells} {
				wantNoPath(t, set, 0, end, n, api.ErrNone)
				wantNoPath(t, set, end, 0, n, api.ErrNone)
				wantNoPath(t, set, end, end, n, api.ErrNone)
			}
		}
	}
}

func TestPathRefusesSets(t *testing.T) {
	for name, set := range invalidSets() {
		for _, n := range []int{least, 0, 1, api.MaxCells, api.MaxCells + 1} {
			if path, e := strip.Path(set, 0, 0, n); e != api.ErrForm || len(path) != 0 {
				t.Errorf("%s, %d: %v, error %d", name, n, path, e)
			}
		}
	}
}
