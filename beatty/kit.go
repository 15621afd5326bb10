package beatty

import (
	"slices"

	"groutwork/api"
	"groutwork/tile"
)

// kit is the tiles of a system with what they stand for: bricks, by the index of the tile, and sides, by the colour to the west or to the east.
type kit struct {
	tiles  []api.Tile
	bricks []brick
	sides  []side
}

// build returns the kit of a system, with the errors of Tiles.
func build(l []api.Piece) (kit, api.Errno) {
	if !Valid(l) {
		return kit{}, api.ErrForm
	}
	var k kit
	for i, p := range l {
		k.bricks = append(k.bricks, bricksOf(i, p)...)
	}
	k.sides = sidesOf(l, k.bricks)
	k.tiles = tilesOf(l, k.bricks, k.sides)
	if !tile.Valid(k.tiles) {
		return kit{}, api.ErrSize
	}
	return k, api.OK
}

// sidesOf returns the sides that occur, sorted.
func sidesOf(l []api.Piece, bricks []brick) []side {
	var sides []side
	for _, b := range bricks {
		sides = append(sides, b.westSide(), b.eastSide(l[b.piece].Factor))
	}
	slices.SortFunc(sides, compareSides)
	return slices.Compact(sides)
}

func tilesOf(l []api.Piece, bricks []brick, sides []side) []api.Tile {
	colours := map[side]int{}
	for colour, s := range sides {
		colours[s] = colour
	}
	var set []api.Tile
	for _, b := range bricks {
		set = append(set, api.Tile{
			N: b.north,
			E: colours[b.eastSide(l[b.piece].Factor)],
			S: b.south,
			W: colours[b.westSide()],
		})
	}
	return set
}

// values returns a value for each colour to the north or to the south: the colour.
func (k kit) values() []api.Frac {
	greatest := 0
	for _, t := range k.tiles {
		greatest = max(greatest, t.N, t.S)
	}
	var list []api.Frac
	for colour := range greatest + 1 {
		list = append(list, api.Frac{Num: colour, Den: 1})
	}
	return list
}

// carries returns the carry of each colour to the west or to the east, in lowest terms.
func (k kit) carries(l []api.Piece) []api.Frac {
	var list []api.Frac
	for _, s := range k.sides {
		den := l[s.piece].Factor.Den
		d := divisor(max(s.carry, -s.carry), den)
		list = append(list, api.Frac{Num: s.carry / d, Den: den / d})
	}
	return list
}

// factors returns the factor of each tile.
func (k kit) factors(l []api.Piece) []api.Frac {
	var list []api.Frac
	for _, b := range k.bricks {
		list = append(list, l[b.piece].Factor)
	}
	return list
}
