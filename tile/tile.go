// Package tile is layer 1: see shared/doc/01-tile.md.
package tile

import "groutwork/api"

// Valid reports whether a set is valid.
func Valid(set []api.Tile) bool {
	if len(set) > api.MaxTiles {
		return false
	}
	seen := make(map[api.Tile]bool, len(set))
	for _, t := range set {
		if seen[t] || !coloured(t) {
			return false
		}
		seen[t] = true
	}
	return true
}

func coloured(t api.Tile) bool {
	return isColour(t.N) && isColour(t.E) && isColour(t.S) && isColour(t.W)
}

func isColour(c int) bool { return 0 <= c && c < api.MaxColours }

// Fits reports whether a pattern is one of the set.
func Fits(set []api.Tile, p api.Pattern) bool {
	return Valid(set) && hasForm(p) && refers(set, p) && agrees(set, p, p.Width-1, p.Height-1)
}

// Repeats reports whether a pattern is a torus of the set.
func Repeats(set []api.Tile, p api.Pattern) bool {
	return Valid(set) && hasForm(p) && refers(set, p) && agrees(set, p, p.Width, p.Height)
}

// hasForm reports whether p has the form of a pattern.
func hasForm(p api.Pattern) bool {
	return inCells(p.Width, p.Height) && len(p.Cells) == p.Width*p.Height
}

// inCells reports whether a rectangle with these sides has cells, and at most MaxCells. It divides, as the product of the sides may overflow.
func inCells(width, height int) bool {
	return width >= 1 && height >= 1 && height <= api.MaxCells/width
}

// refers reports whether all cells are indices of tiles of the set.
func refers(set []api.Tile, p api.Pattern) bool {
	for _, c := range p.Cells {
		if c < 0 || c >= len(set) {
			return false
		}
	}
	return true
}

// agrees reports whether the cells of the first columns agree with their neighbours to the east, and those of the first rows with their neighbours to the north. After the last column and the last row come the first ones, as in a torus.
func agrees(set []api.Tile, p api.Pattern, columns, rows int) bool {
	for y := range p.Height {
		for x := range p.Width {
			t := set[cell(p, x, y)]
			if x < columns && t.E != set[cell(p, x+1, y)].W {
				return false
			}
			if y < rows && t.N != set[cell(p, x, y+1)].S {
				return false
			}
		}
	}
	return true
}

// cell returns the cell of p, repeated, in a column and a row.
func cell(p api.Pattern, x, y int) int {
	return p.Cells[y%p.Height*p.Width+x%p.Width]
}
