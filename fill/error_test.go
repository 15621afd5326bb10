package fill_test

import (
	"fmt"
	"testing"

	"groutwork/api"
	"groutwork/fill"
)

// invalidSets returns a set for each way of not being valid.
func invalidSets() map[string][]api.Tile {
	return map[string][]api.Tile{
		"negative north": {{N: -1}},
		"negative east":  {{E: -1}},
		"negative south": {{S: -1}},
		"negative west":  {{W: -1}},
		"great north":    {{N: api.MaxColours}},
		"great east":     {{E: api.MaxColours}},
		"great south":    {{S: api.MaxColours}},
		"great west":     {{}, {W: api.MaxColours}},
		"greatest int":   {{}, {N: greatest}},
		"least int":      {{}, {S: least}},
		"equal tiles":    {{N: 1}, {}, {N: 1}},
		"too many tiles": append(manyTiles(api.MaxTiles), api.Tile{N: 1}),
	}
}

// wrongSides returns sides and edges that do not fit.
func wrongSides() map[string]struct {
	width, height int
	edges         api.Edges
} {
	type sides = struct {
		width, height int
		edges         api.Edges
	}
	return map[string]sides{
		"width 0":          {0, 1, api.Edges{}},
		"width -1":         {-1, 1, api.Edges{}},
		"width 9":          {api.MaxWide + 1, 1, api.Edges{}},
		"least width":      {least, 1, api.Edges{}},
		"greatest width":   {greatest, 1, api.Edges{}},
		"height 0":         {1, 0, api.Edges{}},
		"height -1":        {1, -1, api.Edges{}},
		"height 61":        {1, api.MaxHigh + 1, api.Edges{}},
		"least height":     {1, least, api.Edges{}},
		"greatest height":  {1, greatest, api.Edges{}},
		"width 9, edges":   {api.MaxWide + 1, 1, zeros(api.MaxWide+1, 1)},
		"height 61, edges": {1, api.MaxHigh + 1, zeros(1, api.MaxHigh+1)},
		"short north":      {3, 2, api.Edges{North: times(2, 0)}},
		"long north":       {3, 2, api.Edges{North: times(4, 0)}},
		"short east":       {2, 3, api.Edges{East: times(2, 0)}},
		"long east":        {2, 3, api.Edges{East: times(4, 0)}},
		"short south":      {3, 2, api.Edges{South: times(2, 0)}},
		"long south":       {3, 2, api.Edges{South: times(4, 0)}},
		"short west":       {2, 3, api.Edges{West: times(2, 0)}},
		"long west":        {2, 3, api.Edges{West: times(4, 0)}},
		"very long north":  {1, 1, api.Edges{North: times(1000, 0)}},
		"only one wrong":   {2, 2, api.Edges{North: times(2, 0), South: times(2, 0), West: times(2, 0), East: times(1, 0)}},
	}
}

func TestRefusesSets(t *testing.T) {
	for name, set := range invalidSets() {
		wantError(t, name, set, 1, 1, api.Edges{}, api.ErrForm)
		for wrong, c := range wrongSides() {
			wantError(t, name+", "+wrong, set, c.width, c.height, c.edges, api.ErrForm)
		}
	}
}

// ErrArg comes before ErrSize and ErrNone, whatever the set.
func TestRefusesSides(t *testing.T) {
	for name, c := range wrongSides() {
		for _, set := range [][]api.Tile{nil, {{}}, parse(t, free), manyTiles(api.MaxTiles)} {
			wantError(t, fmt.Sprint(name, ", ", len(set), " tiles"), set, c.width, c.height, c.edges, api.ErrArg)
		}
	}
}

// As many tiles as 5000 lists allow, for each width, and one more: then ErrSize may be returned, and is.
func TestManyTiles(t *testing.T) {
	most := [api.MaxWide + 1]int{0, api.MaxTiles, 70, 17, 8, 5, 4, 3, 2}
	for width := 1; width <= api.MaxWide; width++ {
		set := manyTiles(most[width])
		want := 1
		for range width {
			want *= len(set)
		}
		for _, height := range []int{1, 2, api.MaxHigh} {
			if n := count(t, set, width, height, api.Edges{}); n != want {
				t.Errorf("%d by %d: %d, want %d", width, height, n, want)
			}
			last := edgesOf(set, api.Pattern{Width: width, Height: 1, Cells: times(width, len(set)-1)}).South
			p := wantPattern(t, set, width, height, api.Edges{North: last})
			if p.Cells[0] != len(set)-1 {
				t.Errorf("%d by %d: %v", width, height, p)
			}
		}
		if width > 1 {
			wantError(t, fmt.Sprint("one more, width ", width), manyTiles(most[width]+1), width, 1, api.Edges{}, api.ErrSize)
		}
	}
	// A number of lists that overflows is great, too; and it does not matter whether there is a pattern.
	for _, tiles := range []int{1 << 8, 1 << 9, api.MaxTiles} {
		for width := 2; width <= api.MaxWide; width++ {
			wantError(t, fmt.Sprint(tiles, " tiles, width ", width), manyTiles(tiles), width, api.MaxHigh, api.Edges{}, api.ErrSize)
			wantError(t, fmt.Sprint(tiles, " tiles, no pattern"), manyTiles(tiles), width, 1, api.Edges{South: times(width, -1)}, api.ErrSize)
		}
	}
}

// Up to MaxCount patterns are counted, and not one more. First does not mind.
func TestGreatestCounts(t *testing.T) {
	for _, c := range []struct {
		set           string
		width, height int
		edges         api.Edges
		want          int
	}{
		{free, 1, 58, api.Edges{}, 1 << 59},
		{free, 1, 59, api.Edges{}, api.MaxCount},
		{free, 1, 60, api.Edges{}, 0},
		{free, 1, 60, api.Edges{North: []int{1}}, api.MaxCount},
		{free, 1, 60, api.Edges{South: []int{0}}, api.MaxCount},
		{free, 2, 29, api.Edges{}, api.MaxCount},
		{free, 2, 30, api.Edges{}, 0},
		{free, 4, 16, api.Edges{North: times(4, 0), South: times(4, 1)}, api.MaxCount},
		{free, 6, 60, api.Edges{}, 0},
		{free + " 2.2.2.2", 1, 59, api.Edges{}, 0},
		{free + " 2.2.2.2", 1, 60, api.Edges{South: []int{2}}, 1},
		{free + " 2.2.2.2", 1, 60, api.Edges{North: []int{2}}, 1},
		{free + " 2.2.2.2", 1, 60, api.Edges{East: times(60, 2)}, 1},
	} {
		set := parse(t, c.set)
		n, e := fill.Count(set, c.width, c.height, c.edges)
		if n != c.want || (e == api.OK) != (c.want > 0) || e != api.OK && e != api.ErrSize {
			t.Errorf("%s, %d by %d, %v: %d, error %d, want %d", c.set, c.width, c.height, c.edges, n, e, c.want)
		}
		wantPattern(t, set, c.width, c.height, c.edges)
	}
}

// More than MaxCount ways for some of the rows do not matter if there are few, or none, for all.
func TestGreatCountsOnTheWay(t *testing.T) {
	const height = api.MaxHigh
	set := parse(t, "0.0.0.0 0.0.1.0 1.0.0.0 1.0.1.0 7.0.8.1")
	wantError(t, "nothing under the last row", set, 1, height, api.Edges{West: append(times(height-1, 0), 1)}, api.ErrNone)
	wantError(t, "nothing over the first row", set, 1, height, api.Edges{West: append([]int{1}, times(height-1, 0)...)}, api.ErrNone)
	wantError(t, "no such south", set, 1, height, api.Edges{South: []int{5}}, api.ErrNone)
	wantError(t, "no such north", set, 1, height, api.Edges{North: []int{5}}, api.ErrNone)
}
