package torus_test

import (
	"slices"

	"groutwork/api"
	"groutwork/tile"
)

// allTori returns all tori of a set of a size, by the order of their cells: of all lists of indices, those that repeat.
func allTori(set []api.Tile, width, height int) []api.Pattern {
	var tori []api.Pattern
	for _, cells := range lists(len(set), width*height) {
		if p := (api.Pattern{Width: width, Height: height, Cells: cells}); tile.Repeats(set, p) {
			tori = append(tori, p)
		}
	}
	return tori
}

// loop is a list of tiles each of which agrees with the next one, and the last one with the first one, with the colours along both of its sides.
type loop struct {
	cells        []int
	near, beyond string
}

// around tells of a tile with which colour it begins and ends in the direction of a loop, and which colours it has at its sides.
type around func(t api.Tile) (begin, end, near, beyond int)

func eastward(t api.Tile) (begin, end, near, beyond int)  { return t.W, t.E, t.S, t.N }
func northward(t api.Tile) (begin, end, near, beyond int) { return t.S, t.N, t.W, t.E }

// loops returns all loops of n tiles, in order.
func loops(set []api.Tile, n int, sides around) []loop {
	var all []loop
	for _, cells := range lists(len(set), n) {
		l := loop{cells: cells}
		agrees := true
		for i, index := range cells {
			_, end, near, beyond := sides(set[index])
			begin, _, _, _ := sides(set[cells[(i+1)%n]])
			agrees = agrees && begin == end
			l.near += string(rune(near))
			l.beyond += string(rune(beyond))
		}
		if agrees {
			all = append(all, l)
		}
	}
	return all
}

// hasTorus reports whether there is a torus. It goes from column to column, as the program does not.
func hasTorus(set []api.Tile, width, height int) bool {
	columns := loops(set, height, northward)
	starts := map[string]bool{}
	for _, c := range columns {
		starts[c.near] = true
	}
	for start := range starts {
		reached := map[string]bool{start: true}
		for range width {
			next := map[string]bool{}
			for _, c := range columns {
				if reached[c.near] {
					next[c.beyond] = true
				}
			}
			reached = next
		}
		if reached[start] {
			return true
		}
	}
	return false
}

// firstTorus returns the cells of the first torus, or nothing. Of all ways from a lowest row to a line it keeps only the first one.
func firstTorus(set []api.Tile, width, height int) []int {
	rows := loops(set, width, eastward)
	for _, bottom := range rows {
		ways := map[string][]int{bottom.beyond: bottom.cells}
		for range height - 1 {
			longer := map[string][]int{}
			for _, r := range rows {
				way, ok := ways[r.near]
				if !ok {
					continue
				}
				cells := slices.Concat(way, r.cells)
				if old, ok := longer[r.beyond]; !ok || slices.Compare(cells, old) < 0 {
					longer[r.beyond] = cells
				}
			}
			ways = longer
		}
		if cells, ok := ways[bottom.near]; ok {
			return cells
		}
	}
	return nil
}
