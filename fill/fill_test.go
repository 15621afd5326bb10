package fill_test

import (
	"fmt"
	"slices"
	"testing"

	"groutwork/api"
	"groutwork/fill"
)

func TestExamples(t *testing.T) {
	if n := count(t, parse(t, "0.0.0.0 1.1.1.1"), 3, 2, api.Edges{}); n != 2 {
		t.Errorf("example 1: %d", n)
	}
	if n := count(t, parse(t, chess), 4, 4, api.Edges{}); n != 2 {
		t.Errorf("example 2: %d", n)
	}
	wantError(t, "example 2", parse(t, chess), 4, 4, api.Edges{South: []int{1, 1}}, api.ErrArg)
}

func TestFirst(t *testing.T) {
	for _, c := range []struct {
		set           string
		width, height int
		edges         api.Edges
		want          []int
	}{
		{chess, 1, 1, api.Edges{}, []int{0}},
		{chess, 3, 2, api.Edges{}, []int{0, 1, 0, 1, 0, 1}},
		{chess, 3, 2, api.Edges{North: []int{0, 1, 0}}, []int{1, 0, 1, 0, 1, 0}},
		{chess, 2, 3, api.Edges{East: []int{1, 0, 1}}, []int{1, 0, 0, 1, 1, 0}},
		{chess, 2, 3, api.Edges{South: []int{0, 1}}, []int{1, 0, 0, 1, 1, 0}},
		{chess, 3, 2, api.Edges{West: []int{1, 0}}, []int{1, 0, 1, 0, 1, 0}},
		{dominoes, 4, 3, zeros(4, 3), []int{0, 1, 0, 1, 0, 1, 0, 1, 0, 1, 0, 1}},
		{dominoes, 3, 2, zeros(3, 2), []int{0, 1, 2, 0, 1, 3}},
		{dominoes, 3, 4, zeros(3, 4), []int{0, 1, 2, 0, 1, 3, 0, 1, 2, 0, 1, 3}},
		{free, 2, 2, api.Edges{South: []int{1, 0}, North: []int{0, 1}}, []int{1, 0, 0, 2}},
		// The first tile leads nowhere: to the east, to the north, and only in the last row.
		{"0.1.0.0 0.0.0.0", 2, 2, api.Edges{}, []int{1, 0, 1, 0}},
		{"1.0.0.0 0.0.0.0", 2, 2, api.Edges{}, []int{1, 1, 0, 0}},
		{"0.0.0.0 1.0.0.0 2.0.1.0", 1, 3, api.Edges{North: []int{2}}, []int{0, 1, 2}},
	} {
		p, e := fill.First(parse(t, c.set), c.width, c.height, c.edges)
		if e != api.OK || p.Width != c.width || p.Height != c.height || !slices.Equal(p.Cells, c.want) {
			t.Errorf("%s, %d by %d, %v: %v, error %d", c.set, c.width, c.height, c.edges, p, e)
		}
	}
}

// Numbers of ways to cover a rectangle with dominoes are known.
func TestCountDominoes(t *testing.T) {
	set := parse(t, dominoes)
	for _, c := range []struct{ width, height, want int }{
		{1, 1, 0}, {2, 1, 1}, {1, 2, 1}, {1, 59, 0}, {1, 60, 1}, {2, 59, 1548008755920}, {2, 60, 2504730781961},
		{3, 2, 3}, {3, 4, 11}, {3, 5, 0}, {3, 6, 41}, {3, 8, 153}, {4, 4, 36}, {5, 4, 95}, {5, 5, 0}, {4, 5, 95},
		{5, 6, 1183}, {6, 5, 1183}, {6, 6, 6728}, {6, 7, 31529}, {6, 8, 167089},
	} {
		if n := count(t, set, c.width, c.height, zeros(c.width, c.height)); n != c.want {
			t.Errorf("%d by %d: %d, want %d", c.width, c.height, n, c.want)
		}
	}
}

// All rectangles of small sets, with all edges, against all lists of cells.
func TestAgainstAllLists(t *testing.T) {
	sets := append(mixedSets(40, 2, 2), mixedSets(25, 3, 2)...)
	sets = append(sets, nil, []api.Tile{{}}, []api.Tile{{N: 1}}, []api.Tile{{E: 1}}, parse(t, chess), parse(t, "0.0.0.0 1.1.1.1"), parse(t, free))
	for _, set := range sets {
		for _, sides := range [][2]int{{1, 1}, {2, 1}, {1, 2}, {3, 1}, {1, 3}, {2, 2}} {
			checkAll(t, set, sides[0], sides[1])
		}
	}
	for _, set := range mixedSets(4, 3, 2) {
		checkAll(t, set, 3, 2)
		checkAll(t, set, 2, 3)
	}
}

// checkAll compares First and Count of a size with all patterns, for all edges.
func checkAll(t *testing.T, set []api.Tile, width, height int) {
	t.Helper()
	all := patterns(set, width, height)
	upper, side := options(2, width), options(2, height)
	for i := range len(upper) * len(upper) * len(side) * len(side) {
		var edges api.Edges
		edges.North, i = upper[i%len(upper)], i/len(upper)
		edges.South, i = upper[i%len(upper)], i/len(upper)
		edges.West, edges.East = side[i%len(side)], side[i/len(side)]
		what := fmt.Sprint(set, width, " by ", height, edges)
		var want []api.Pattern
		for _, p := range all {
			if has(set, p, edges) {
				want = append(want, p)
			}
		}
		if len(want) == 0 {
			wantError(t, what, set, width, height, edges, api.ErrNone)
			continue
		}
		if n := count(t, set, width, height, edges); n != len(want) {
			t.Fatalf("%s: %d, want %d", what, n, len(want))
		}
		if p := wantPattern(t, set, width, height, edges); !slices.Equal(p.Cells, want[0].Cells) {
			t.Fatalf("%s: %v, want %v", what, p, want[0])
		}
	}
}

func TestGreatestRectangles(t *testing.T) {
	set := parse(t, chess)
	for _, sides := range [][2]int{{api.MaxWide, api.MaxHigh}, {1, api.MaxHigh}, {api.MaxWide, 1}} {
		if n := count(t, set, sides[0], sides[1], api.Edges{}); n != 2 {
			t.Errorf("%v: %d", sides, n)
		}
		p := wantPattern(t, set, sides[0], sides[1], api.Edges{})
		if n := count(t, set, sides[0], sides[1], edgesOf(set, p)); n != 1 {
			t.Errorf("%v with edges: %d", sides, n)
		}
	}
}

func TestEmptySet(t *testing.T) {
	for _, set := range [][]api.Tile{nil, {}} {
		for _, sides := range [][2]int{{1, 1}, {api.MaxWide, api.MaxHigh}} {
			wantError(t, "empty set", set, sides[0], sides[1], api.Edges{}, api.ErrNone)
			wantError(t, "empty set with edges", set, sides[0], sides[1], zeros(sides[0], sides[1]), api.ErrNone)
		}
		wantError(t, "empty set, wrong width", set, 0, 1, api.Edges{}, api.ErrArg)
	}
}

// Edges may have any numbers as colours; those that do not occur fit nowhere, even if they are equal to some colour in fewer bits.
func TestOtherColours(t *testing.T) {
	set := []api.Tile{{}, {N: 999, E: 999, S: 999, W: 999}}
	for _, colour := range []int{-1, 1, 998, 1000, 1 << 8, 1 << 16, 1<<16 + 999, 1 << 32, 1<<32 + 999, 1000 * 1000, least, greatest} {
		for place := range 2 {
			edge := []int{0, 0}
			edge[place] = colour
			for name, edges := range oneEdge(edge) {
				wantError(t, fmt.Sprint(name, edge), set, 2, 2, edges, api.ErrNone)
			}
		}
	}
	for name, edges := range oneEdge([]int{999, 999}) {
		if n := count(t, set, 2, 2, edges); n != 1 {
			t.Errorf("%s: %d", name, n)
		}
	}
}

// oneEdge returns edges of which one is given, and the others are free.
func oneEdge(edge []int) map[string]api.Edges {
	return map[string]api.Edges{"north": {North: edge}, "east": {East: edge}, "south": {South: edge}, "west": {West: edge}}
}
