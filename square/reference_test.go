package square_test

import (
	"slices"

	"groutwork/api"
	"groutwork/tile"
)

// border is the colours along which a square that is filled up to some cell can go on: N of the highest cell of each column, and E of the last cell.
type border struct {
	norths [api.MaxSide]int
	east   int
}

// hasSquare reports whether there is a square. It goes from cell to cell, as the program does not.
func hasSquare(set []api.Tile, side int) bool {
	borders := map[border]bool{{}: true}
	for i := range side * side {
		x, y := i%side, i/side
		next := map[border]bool{}
		for b := range borders {
			for _, t := range set {
				if (y == 0 || b.norths[x] == t.S) && (x == 0 || b.east == t.W) {
					after := border{norths: b.norths, east: t.E}
					after.norths[x] = t.N
					next[after] = true
				}
			}
		}
		borders = next
	}
	return len(borders) > 0
}

// isFilled reports whether some of all lists of cells is a square.
func isFilled(set []api.Tile, side int) bool {
	return slices.ContainsFunc(lists(len(set), side*side), func(cells []int) bool {
		return tile.Fits(set, api.Pattern{Width: side, Height: side, Cells: cells})
	})
}
