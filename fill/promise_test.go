package fill_test

import (
	"fmt"
	"slices"
	"testing"

	"groutwork/api"
	"groutwork/fill"
	"groutwork/tile"
)

// someSets returns sets with few and with many patterns.
func someSets(t *testing.T) [][]api.Tile {
	sets := slices.Concat(mixedSets(12, 3, 2), mixedSets(8, 4, 2), mixedSets(6, 5, 3))
	return append(sets, parse(t, chess), parse(t, free), parse(t, dominoes), parse(t, "0.0.0.0 1.1.1.1"), []api.Tile{{N: 3, S: 3, E: 4, W: 4}}, nil)
}

// someEdges returns edges of a size, free ones and others.
func someEdges(width, height int) []api.Edges {
	all := zeros(width, height)
	mixed := api.Edges{North: times(width, 0), West: times(height, 0)}
	mixed.North[width-1], mixed.West[height-1] = 1, 1
	return []api.Edges{{}, {South: all.South}, {West: all.West}, {East: all.East}, {South: all.South, East: all.East}, mixed, all}
}

// eachCase calls f with sets, sizes and edges.
func eachCase(t *testing.T, f func(set []api.Tile, width, height int, edges api.Edges)) {
	for _, set := range someSets(t) {
		for _, sides := range [][2]int{{1, 1}, {1, 7}, {2, 3}, {3, 2}, {3, 5}, {4, 1}, {4, 3}} {
			for _, edges := range someEdges(sides[0], sides[1]) {
				f(set, sides[0], sides[1], edges)
			}
		}
	}
}

// P2.1: ErrNone if and only if Count is 0, otherwise a pattern of the set with these edges.
func TestThere(t *testing.T) {
	there, none := 0, 0
	check := func(set []api.Tile, width, height int, edges api.Edges) {
		n, e := fill.Count(set, width, height, edges)
		if e == api.OK && n == 0 {
			none++
			wantError(t, fmt.Sprint(set, width, height, edges), set, width, height, edges, api.ErrNone)
			return
		}
		there++
		wantPattern(t, set, width, height, edges)
	}
	eachCase(t, check)
	for _, set := range someSets(t) {
		for _, height := range []int{20, api.MaxHigh} {
			for _, edges := range someEdges(4, height) {
				check(set, 4, height, edges)
			}
		}
	}
	if there == 0 || none == 0 {
		t.Errorf("%d there, %d not", there, none)
	}
}

// P2.1: the edges of a pattern are those of some pattern, whichever of them are given.
func TestEdgesOfPatterns(t *testing.T) {
	for _, set := range someSets(t) {
		p, e := fill.First(set, 4, 6, api.Edges{})
		if e != api.OK {
			continue
		}
		edges := edgesOf(set, p)
		for sides := range 16 {
			var some api.Edges
			for i, s := range []struct{ to, from *[]int }{{&some.North, &edges.North}, {&some.East, &edges.East}, {&some.South, &edges.South}, {&some.West, &edges.West}} {
				if sides>>i&1 == 1 {
					*s.to = *s.from
				}
			}
			if q := wantPattern(t, set, 4, 6, some); !slices.Equal(q.Cells, p.Cells) {
				t.Errorf("%v, %v: %v comes before the first one, %v", set, some, q, p)
			}
		}
	}
}

// norths returns the colours that occur as N in the set.
func norths(set []api.Tile) []int {
	var colours []int
	for _, t := range set {
		colours = append(colours, t.N)
	}
	slices.Sort(colours)
	return slices.Compact(colours)
}

// northLists returns all lists of so many colours that occur as N in the set.
func northLists(set []api.Tile, width int) [][]int {
	colours := norths(set)
	all := lists(len(colours), width)
	for _, l := range all {
		for i := range l {
			l[i] = colours[l[i]]
		}
	}
	return all
}

// P2.2: Count is the sum over the lists North; for other lists it is 0.
func TestSumOverNorth(t *testing.T) {
	eachCase(t, func(set []api.Tile, width, height int, edges api.Edges) {
		edges.North = nil
		want := count(t, set, width, height, edges)
		sum := 0
		for _, north := range northLists(set, width) {
			edges.North = north
			sum += count(t, set, width, height, edges)
			other := slices.Clone(north)
			other[width/2] = 17
			edges.North = other
			if n := count(t, set, width, height, edges); n != 0 {
				t.Fatalf("%v, %d by %d, %v: %d", set, width, height, edges, n)
			}
		}
		edges.North = nil
		if sum != want {
			t.Fatalf("%v, %d by %d, %v: %d, but the sum is %d", set, width, height, edges, want, sum)
		}
	})
}

func reversed(l []int) []int {
	r := slices.Clone(l)
	slices.Reverse(r)
	return r
}

// P2.3: the mirror image and the upturned set have the same counts with edges changed accordingly.
func TestTurned(t *testing.T) {
	eachCase(t, func(set []api.Tile, width, height int, edges api.Edges) {
		want := count(t, set, width, height, edges)
		mirrored := api.Edges{North: reversed(edges.North), South: reversed(edges.South), West: edges.East, East: edges.West}
		upturned := api.Edges{North: edges.South, South: edges.North, West: reversed(edges.West), East: reversed(edges.East)}
		mirror, e := tile.Mirror(set)
		upturn, f := tile.Upturn(set)
		if e != api.OK || f != api.OK {
			t.Fatalf("errors %d, %d", e, f)
		}
		if n := count(t, mirror, width, height, mirrored); n != want {
			t.Fatalf("%v, %d by %d, %v: %d, but %d for the mirror image", set, width, height, edges, want, n)
		}
		if n := count(t, upturn, width, height, upturned); n != want {
			t.Fatalf("%v, %d by %d, %v: %d, but %d upturned", set, width, height, edges, want, n)
		}
	})
}

// parts returns a list's first n numbers and the others; an empty list has empty parts.
func parts(l []int, n int) ([]int, []int) {
	if len(l) == 0 {
		return nil, nil
	}
	return l[:n], l[n:]
}

// P2.4: Count is the sum of the products of the counts of two parts, over the colours between them.
func TestStacked(t *testing.T) {
	eachCase(t, func(set []api.Tile, width, height int, edges api.Edges) {
		want := count(t, set, width, height, edges)
		for lower := 1; lower < height; lower++ {
			var under, over api.Edges
			under.South, over.North = edges.South, edges.North
			under.West, over.West = parts(edges.West, lower)
			under.East, over.East = parts(edges.East, lower)
			sum := 0
			for _, between := range northLists(set, width) {
				under.North, over.South = between, between
				sum += count(t, set, width, lower, under) * count(t, set, width, height-lower, over)
			}
			if sum != want {
				t.Fatalf("%v, %d by %d, %v: %d, but %d in parts, the lower one with %d rows", set, width, height, edges, want, sum, lower)
			}
		}
	})
}
