package strip

import (
	"groutwork/api"
	"groutwork/tile"
)

// On returns the tiles of rows of one set on rows of another one.
func On(a, b []api.Tile) ([]api.Tile, [][2]int, api.Errno) {
	if !tile.Valid(a) || !tile.Valid(b) {
		return nil, nil, api.ErrForm
	}
	d := doubles{numbers: map[[2]int]int{}, met: map[api.Tile]bool{}}
	for i, x := range a {
		for j, y := range b {
			if x.N != y.S {
				continue
			}
			d.add(d.double(x, y), i, j)
			if len(d.tiles) > api.MaxTiles || len(d.numbers) > api.MaxColours {
				return nil, nil, api.ErrSize
			}
		}
	}
	return d.tiles, d.from, api.OK
}

// doubles is tiles that stand for one tile on another one, and the indices of these, with the numbers of the pairs that were met.
type doubles struct {
	tiles   []api.Tile
	from    [][2]int
	numbers map[[2]int]int
	met     map[api.Tile]bool
}

// double returns the tile that stands for y on x. It numbers the pair of E before that of W.
func (d *doubles) double(x, y api.Tile) api.Tile {
	e := d.number([2]int{x.E, y.E})
	w := d.number([2]int{x.W, y.W})
	return api.Tile{N: y.N, E: e, S: x.S, W: w}
}

// number returns the number of a pair. Pairs are numbered in the order in which they are met.
func (d *doubles) number(pair [2]int) int {
	n, met := d.numbers[pair]
	if !met {
		n = len(d.numbers)
		d.numbers[pair] = n
	}
	return n
}

// add adds a tile that stands for tile j of b on tile i of a, unless it was met.
func (d *doubles) add(t api.Tile, i, j int) {
	if d.met[t] {
		return
	}
	d.met[t] = true
	d.tiles = append(d.tiles, t)
	d.from = append(d.from, [2]int{i, j})
}
