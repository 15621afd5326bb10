package torus_test

import (
	"fmt"
	"testing"

	"groutwork/api"
	"groutwork/torus"
)

// invalidSets returns a set for each way of not being valid.
func invalidSets() map[string][]api.Tile {
	return map[string][]api.Tile{
		"negative north": {{N: -1}},
		"negative east":  {{E: -1}},
		"negative south": {{S: -1}},
		"negative west":  {{W: -1}},
		"great north":    {{N: api.MaxColours}},
		"great east":     {{E: api.MaxColours}},
		"great south":    {{S: api.MaxColours}},
		"great west":     {{}, {W: api.MaxColours}},
		"great torus":    {{N: api.MaxColours, E: 0, S: api.MaxColours, W: 0}},
		"greatest int":   {{}, {N: greatest}},
		"least int":      {{}, {S: least}},
		"equal tiles":    {{N: 1}, {}, {N: 1}},
		"too many tiles": append(manyLoops(api.MaxTiles), api.Tile{N: 1}),
	}
}

// wrongPeriods returns numbers that no side of a torus may have.
func wrongPeriods() []int {
	return []int{0, -1, -6, api.MaxPeriod + 1, api.MaxPeriod + 2, 1 << 32, 1<<32 + 1, 1 << 62, 1<<62 + 1, least, least + 1, greatest}
}

func TestRefusesSets(t *testing.T) {
	for name, set := range invalidSets() {
		for _, side := range append(wrongPeriods(), 1, 2, api.MaxPeriod) {
			p, e := torus.Find(set, side, 1)
			wantNone(t, fmt.Sprint("Find, ", name, ", width ", side), p, e, api.ErrForm)
			p, e = torus.Find(set, 1, side)
			wantNone(t, fmt.Sprint("Find, ", name, ", height ", side), p, e, api.ErrForm)
			p, e = torus.Least(set, side)
			wantNone(t, fmt.Sprint("Least, ", name, ", most ", side), p, e, api.ErrForm)
		}
	}
}

// ErrArg comes before ErrSize and ErrNone, whatever the set.
func TestRefusesSides(t *testing.T) {
	for _, set := range [][]api.Tile{nil, {{}}, {{N: 1}}, parse(t, chess), manyTiles(api.MaxTiles)} {
		what := fmt.Sprint(len(set), " tiles, ")
		for _, side := range wrongPeriods() {
			for _, other := range append(wrongPeriods(), 1, 2, 3, 4, 5, 6) {
				p, e := torus.Find(set, side, other)
				wantNone(t, fmt.Sprint("Find, ", what, side, " by ", other), p, e, api.ErrArg)
				p, e = torus.Find(set, other, side)
				wantNone(t, fmt.Sprint("Find, ", what, other, " by ", side), p, e, api.ErrArg)
			}
			p, e := torus.Least(set, side)
			wantNone(t, fmt.Sprint("Least, ", what, side), p, e, api.ErrArg)
		}
	}
}

// mostTiles returns how many tiles 5000 lists of a width allow.
func mostTiles(width int) int {
	return [api.MaxPeriod + 1]int{0, api.MaxTiles, 70, 17, 8, 5, 4}[width]
}

// As many tiles as 5000 lists allow have to be dealt with, whether there is a torus or not.
func TestMostTiles(t *testing.T) {
	for width := 1; width <= api.MaxPeriod; width++ {
		n := mostTiles(width)
		loops, tower := manyLoops(n), manyTiles(n)
		for height := 1; height <= api.MaxPeriod; height++ {
			wantTorus(t, loops, width, height)
			// These tiles lie on each other in turn, n of them.
			if got := exists(t, tower, width, height); got != (height%n == 0) {
				t.Errorf("%d tiles, %d by %d: %v", n, width, height, got)
			}
		}
		if p, e := torus.Least(loops, width); e != api.OK || p.Width != 1 || p.Height != 1 || p.Cells[0] != 0 {
			t.Errorf("Least, %d tiles, %d: %v, error %d", n, width, p, e)
		}
		p, e := torus.Least(tower, width)
		if n <= width {
			if e != api.OK || p.Width != 1 || p.Height != n {
				t.Errorf("Least, %d tiles on each other, %d: %v, error %d", n, width, p, e)
			}
		} else {
			wantNone(t, fmt.Sprint("Least, ", n, " tiles on each other, ", width), p, e, api.ErrNone)
		}
	}
}

// With one tile more ErrSize may be returned, and is, whether or not there is a torus; a number of lists that overflows is great, too.
func TestTooManyTiles(t *testing.T) {
	for width := 2; width <= api.MaxPeriod; width++ {
		for _, n := range []int{mostTiles(width) + 1, 1 << 8, 1 << 9, api.MaxTiles} {
			for _, set := range [][]api.Tile{manyTiles(n), manyLoops(n)} {
				for height := 1; height <= api.MaxPeriod; height++ {
					p, e := torus.Find(set, width, height)
					wantNone(t, fmt.Sprint("Find, ", n, " tiles, ", width, " by ", height), p, e, api.ErrSize)
				}
				p, e := torus.Least(set, width)
				wantNone(t, fmt.Sprint("Least, ", n, " tiles, ", width), p, e, api.ErrSize)
			}
		}
	}
}

// The height has nothing to do with the number of lists.
func TestManyTilesHigh(t *testing.T) {
	set := rigid(1, 6, 0)
	for i := range api.MaxTiles - len(set) {
		set = append(set, api.Tile{N: 500, E: i % 500, S: 501, W: 500 + i/500})
	}
	for height := 1; height <= api.MaxPeriod; height++ {
		if got := exists(t, set, 1, height); got != (height == 6) {
			t.Errorf("height %d: %v", height, got)
		}
	}
}

// Searches with many ways, of which those of an odd height do not come back: tiles lead from each even colour to each odd one, and from each odd one to each even one. Without a memory of what was tried they take very long.
func TestManyWaysInVain(t *testing.T) {
	for width := 1; width <= api.MaxPeriod; width++ {
		var set []api.Tile
		colours := 1
		for 2*(colours+1)*(colours+1) <= mostTiles(width) {
			colours++
		}
		for i := range colours * colours {
			south, north := 2*(i%colours), 2*(i/colours)
			set = append(set, api.Tile{S: south, N: north + 1}, api.Tile{S: south + 1, N: north})
		}
		for height := 1; height <= api.MaxPeriod; height++ {
			if got := exists(t, set, width, height); got != (height%2 == 0) {
				t.Errorf("%d by %d: %v", width, height, got)
			}
		}
	}
}

func TestEmptySet(t *testing.T) {
	for _, set := range [][]api.Tile{nil, {}} {
		for side := 1; side <= api.MaxPeriod; side++ {
			p, e := torus.Find(set, side, api.MaxPeriod+1-side)
			wantNone(t, "Find, empty set", p, e, api.ErrNone)
			p, e = torus.Least(set, side)
			wantNone(t, "Least, empty set", p, e, api.ErrNone)
		}
	}
}
