package tile_test

import (
	"testing"

	"groutwork/api"
	"groutwork/tile"
)

func TestValidAccepts(t *testing.T) {
	for name, set := range map[string][]api.Tile{
		"nil":                 nil,
		"empty":               {},
		"zero colours":        {{}},
		"greatest colours":    {{N: 999, E: 999, S: 999, W: 999}},
		"most tiles":          manyTiles(api.MaxTiles),
		"differ in the north": {{N: 1, E: 2, S: 3, W: 4}, {N: 0, E: 2, S: 3, W: 4}},
		"differ in the east":  {{N: 1, E: 2, S: 3, W: 4}, {N: 1, E: 0, S: 3, W: 4}},
		"differ in the south": {{N: 1, E: 2, S: 3, W: 4}, {N: 1, E: 2, S: 0, W: 4}},
		"differ in the west":  {{N: 1, E: 2, S: 3, W: 4}, {N: 1, E: 2, S: 3, W: 0}},
		"same colours turned": {{N: 1}, {E: 1}, {S: 1}, {W: 1}},
	} {
		if !tile.Valid(set) {
			t.Errorf("%s: not valid", name)
		}
	}
}

func TestValidRefuses(t *testing.T) {
	for name, set := range invalidSets() {
		if tile.Valid(set) {
			t.Errorf("%s: valid", name)
		}
	}
}

func TestFitsAndRepeatsRefuseInvalidSets(t *testing.T) {
	p := api.Pattern{Width: 1, Height: 1, Cells: []int{0}}
	for name, set := range invalidSets() {
		if tile.Fits(set, p) || tile.Repeats(set, p) {
			t.Errorf("%s: there is a pattern", name)
		}
	}
}

func TestFitsAndRepeatsRefuseInvalidForms(t *testing.T) {
	set := []api.Tile{{}}
	for name, p := range invalidPatterns() {
		if tile.Fits(set, p) || tile.Repeats(set, p) {
			t.Errorf("%s: accepted", name)
		}
	}
}

func TestFitsAndRepeatsRefuseIndices(t *testing.T) {
	set := []api.Tile{{}}
	for _, index := range []int{-1, 1, 2, 1000, 1<<63 - 1, -1 << 63} {
		for place := range 4 {
			p := api.Pattern{Width: 2, Height: 2, Cells: make([]int, 4)}
			p.Cells[place] = index
			if tile.Fits(set, p) || tile.Repeats(set, p) {
				t.Errorf("index %d in cell %d is accepted", index, place)
			}
		}
	}
	if p := (api.Pattern{Width: 1, Height: 1, Cells: []int{0}}); tile.Fits(nil, p) || tile.Repeats(nil, p) {
		t.Error("the empty set has a pattern")
	}
}

func TestExamples(t *testing.T) {
	one := api.Pattern{Width: 1, Height: 1, Cells: []int{0}}
	if set := parse(t, "0.1.0.1"); !tile.Fits(set, one) || !tile.Repeats(set, one) {
		t.Error("example 1: no torus of one cell")
	}
	if set := parse(t, chess); !tile.Fits(set, chessboard()) || !tile.Repeats(set, chessboard()) {
		t.Error("example 2: no chessboard")
	}
}

func TestGreatestPatterns(t *testing.T) {
	set := []api.Tile{{}}
	for _, sides := range [][2]int{{200, 200}, {api.MaxCells, 1}, {1, api.MaxCells}, {2, api.MaxCells / 2}} {
		p := api.Pattern{Width: sides[0], Height: sides[1], Cells: make([]int, api.MaxCells)}
		if !tile.Fits(set, p) || !tile.Repeats(set, p) {
			t.Errorf("%d by %d is refused", sides[0], sides[1])
		}
	}
}

// A pattern that is wrong at a single place is no pattern; a torus that is wrong where it is joined is still a pattern.
func TestOneSideWrong(t *testing.T) {
	const width, height = 4, 3
	var set []api.Tile
	p := api.Pattern{Width: width, Height: height}
	for i := range width * height {
		x, y := i%width, i/width
		north, east := (y+1)%height*width+x, y*width+(x+1)%width
		set = append(set, api.Tile{N: north, E: 100 + east, S: i, W: 100 + i})
		p.Cells = append(p.Cells, i)
	}
	if !tile.Fits(set, p) || !tile.Repeats(set, p) {
		t.Fatal("not a torus to begin with")
	}
	for i := range width * height {
		right := set[i]
		set[i].E = 999
		if fits := tile.Fits(set, p); fits != (i%width == width-1) || tile.Repeats(set, p) {
			t.Errorf("cell %d is wrong to the east: Fits is %v", i, fits)
		}
		set[i] = right
		set[i].N = 999
		if fits := tile.Fits(set, p); fits != (i/width == height-1) || tile.Repeats(set, p) {
			t.Errorf("cell %d is wrong to the north: Fits is %v", i, fits)
		}
		set[i] = right
	}
}

// fitsPlainly is the definition of a pattern and of a torus, written in another way: by the lists of the pairs of neighbours.
func fitsPlainly(set []api.Tile, p api.Pattern, torus bool) bool {
	for i, index := range p.Cells {
		east, north := i+1, i+p.Width
		lastColumn, lastRow := i%p.Width == p.Width-1, i/p.Width == p.Height-1
		if lastColumn {
			east -= p.Width
		}
		if lastRow {
			north -= p.Width * p.Height
		}
		if (torus || !lastColumn) && set[index].E != set[p.Cells[east]].W {
			return false
		}
		if (torus || !lastRow) && set[index].N != set[p.Cells[north]].S {
			return false
		}
	}
	return true
}

func TestSmallPatterns(t *testing.T) {
	fitting, repeating := 0, 0
	eachPattern(func(set []api.Tile, p api.Pattern) {
		fits, repeats := tile.Fits(set, p), tile.Repeats(set, p)
		if fits != fitsPlainly(set, p, false) || repeats != fitsPlainly(set, p, true) {
			t.Fatalf("set %v, pattern %v: Fits is %v, Repeats is %v", set, p, fits, repeats)
		}
		if fits {
			fitting++
		}
		if repeats {
			repeating++
		}
	})
	if repeating == 0 || fitting <= repeating {
		t.Errorf("%d patterns, %d of them tori: the test tests nothing", fitting, repeating)
	}
}

// The colours of horizontal neighbours and those of vertical ones have nothing to do with each other.
func TestColoursOfBothDirections(t *testing.T) {
	p := api.Pattern{Width: 1, Height: 1, Cells: []int{0}}
	if !tile.Repeats([]api.Tile{{N: 1, E: 2, S: 1, W: 2}}, p) {
		t.Error("N is S and E is W, but there is no torus")
	}
	for _, bad := range []api.Tile{{N: 1, E: 1, S: 2, W: 2}, {N: 1, E: 2, S: 2, W: 1}, {N: 1, E: 1, S: 1, W: 2}, {N: 1, E: 1, S: 2, W: 1}} {
		if tile.Repeats([]api.Tile{bad}, p) || !tile.Fits([]api.Tile{bad}, p) {
			t.Errorf("%v: not just a pattern of one cell", bad)
		}
	}
}
