package tile

import "groutwork/api"

// The changes in the table of changes.
const (
	mirror = iota
	upturn
	turn
	kinds
)

// change is what a change of the whole plane does to tiles, to the sides of patterns and to the places of their cells.
type change struct {
	tile  func(t api.Tile) api.Tile
	sides func(p api.Pattern) (width, height int)
	place func(p api.Pattern, x, y int) (column, row int)
}

func changes() [kinds]change {
	return [kinds]change{
		mirror: {
			tile:  func(t api.Tile) api.Tile { return api.Tile{N: t.N, E: t.W, S: t.S, W: t.E} },
			sides: func(p api.Pattern) (int, int) { return p.Width, p.Height },
			place: func(p api.Pattern, x, y int) (int, int) { return p.Width - 1 - x, y },
		},
		upturn: {
			tile:  func(t api.Tile) api.Tile { return api.Tile{N: t.S, E: t.E, S: t.N, W: t.W} },
			sides: func(p api.Pattern) (int, int) { return p.Width, p.Height },
			place: func(p api.Pattern, x, y int) (int, int) { return x, p.Height - 1 - y },
		},
		turn: {
			tile:  func(t api.Tile) api.Tile { return api.Tile{N: t.W, E: t.N, S: t.E, W: t.S} },
			sides: func(p api.Pattern) (int, int) { return p.Height, p.Width },
			place: func(p api.Pattern, x, y int) (int, int) { return y, p.Width - 1 - x },
		},
	}
}

// Mirror returns the mirror image of a set.
func Mirror(set []api.Tile) ([]api.Tile, api.Errno) { return changeSet(set, mirror) }

// Upturn returns the upturned set.
func Upturn(set []api.Tile) ([]api.Tile, api.Errno) { return changeSet(set, upturn) }

// Turn returns the set turned to the east.
func Turn(set []api.Tile) ([]api.Tile, api.Errno) { return changeSet(set, turn) }

// MirrorPattern returns the mirror image of a pattern.
func MirrorPattern(p api.Pattern) (api.Pattern, api.Errno) { return changePattern(p, mirror) }

// UpturnPattern returns the upturned pattern.
func UpturnPattern(p api.Pattern) (api.Pattern, api.Errno) { return changePattern(p, upturn) }

// TurnPattern returns the pattern turned to the east.
func TurnPattern(p api.Pattern) (api.Pattern, api.Errno) { return changePattern(p, turn) }

func changeSet(set []api.Tile, kind int) ([]api.Tile, api.Errno) {
	if !Valid(set) {
		return nil, api.ErrForm
	}
	c := changes()[kind]
	changed := make([]api.Tile, len(set))
	for i, t := range set {
		changed[i] = c.tile(t)
	}
	return changed, api.OK
}

func changePattern(p api.Pattern, kind int) (api.Pattern, api.Errno) {
	if !hasForm(p) {
		return api.Pattern{}, api.ErrForm
	}
	c := changes()[kind]
	width, height := c.sides(p)
	cells := make([]int, len(p.Cells))
	for i, index := range p.Cells {
		column, row := c.place(p, i%p.Width, i/p.Width)
		cells[row*width+column] = index
	}
	return api.Pattern{Width: width, Height: height, Cells: cells}, api.OK
}
