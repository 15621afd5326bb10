package torus

import "groutwork/api"

// line is the colours along a line between two rows, from the west to the east. Those beyond the width are 0.
type line [api.MaxPeriod]int

// row is a list of tiles each of which agrees with its neighbour to the east, with the colours around it.
type row struct {
	cells        [api.MaxPeriod]int
	north, south line
	east, west   int
}

// rowsOf returns all rows of a width, by the order of their cells.
func rowsOf(set []api.Tile, width int) []row {
	rows := []row{{}}
	for x := range width {
		var longer []row
		for _, r := range rows {
			for index, t := range set {
				if x == 0 || r.east == t.W {
					longer = append(longer, r.extended(x, index, t))
				}
			}
		}
		rows = longer
	}
	return rows
}

// extended returns the row with a tile in column x, behind its last one. The receiver is a copy: its arrays may be written to.
func (r row) extended(x, index int, t api.Tile) row {
	r.cells[x], r.north[x], r.south[x] = index, t.N, t.S
	r.east = t.E
	if x == 0 {
		r.west = t.W
	}
	return r
}

// ring is a row whose ends agree, with the numbers of the lines above and below it.
type ring struct {
	cells        [api.MaxPeriod]int
	north, south int
}

// band is the rings of a width, by the order of their cells, and for each number of a line the indices, rising, of the rings over it.
type band struct {
	rings []ring
	over  [][]int
}

func bandOf(set []api.Tile, width int) band {
	var b band
	numbers := map[line]int{}
	for _, r := range rowsOf(set, width) {
		if r.east != r.west {
			continue
		}
		south, north := number(numbers, r.south), number(numbers, r.north)
		b.rings = append(b.rings, ring{cells: r.cells, north: north, south: south})
	}
	b.over = make([][]int, len(numbers))
	for index, r := range b.rings {
		b.over[r.south] = append(b.over[r.south], index)
	}
	return b
}

// number returns the number of a line. Lines are numbered in the order in which they are met.
func number(numbers map[line]int, l line) int {
	n, met := numbers[l]
	if !met {
		n = len(numbers)
		numbers[l] = n
	}
	return n
}
