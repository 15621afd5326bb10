package fill

import (
	"slices"

	"groutwork/api"
)

// many stands for every number that is greater than MaxCount.
const many = api.MaxCount + 1

// plus adds numbers of patterns. Numbers that are not negative and at most many do not overflow.
func plus(a, b int) int { return min(a+b, many) }

// rectangle is what is to be filled: its edges, and the rows that it may consist of.
type rectangle struct {
	height int
	edges  api.Edges
	rows   []row
}

// levels returns for each y from 0 to the height in how many ways the rows from row y on can be filled, by the line below them. A line over which they cannot be filled is missing.
//
// A number that is cut to many does no harm: if the rows below lead to that line at all, Count is greater than MaxCount, too.
func (r rectangle) levels() []map[line]int {
	levels := make([]map[line]int, r.height+1)
	levels[r.height] = map[line]int{}
	for _, top := range r.rows {
		levels[r.height][top.north] = 1
	}
	for y := r.height - 1; y >= 0; y-- {
		levels[y] = r.under(levels[y+1], y)
	}
	return levels
}

// under returns the level of row y, given the one above it.
func (r rectangle) under(above map[line]int, y int) map[line]int {
	level := map[line]int{}
	for _, next := range r.rows {
		if n := above[next.north]; n > 0 && r.admits(next, y) {
			level[next.south] = plus(level[next.south], n)
		}
	}
	return level
}

// firstRow returns the first row that may be row y, stand on the line below it, and have rows above it up to the north. There has to be one.
func (r rectangle) firstRow(y int, below line, above map[line]int) row {
	at := slices.IndexFunc(r.rows, func(next row) bool {
		return (y == 0 || next.south == below) && above[next.north] > 0 && r.admits(next, y)
	})
	return r.rows[at]
}

// admits reports whether the edges allow a row as row y.
func (r rectangle) admits(next row, y int) bool {
	if len(r.edges.West) > 0 && r.edges.West[y] != next.west || len(r.edges.East) > 0 && r.edges.East[y] != next.east {
		return false
	}
	return (y > 0 || has(next.south, r.edges.South)) && (y < r.height-1 || has(next.north, r.edges.North))
}

// has reports whether a line has the colours of an edge. An empty edge is free.
func has(l line, edge []int) bool {
	return len(edge) == 0 || slices.Equal(l[:len(edge)], edge)
}
