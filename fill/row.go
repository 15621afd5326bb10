package fill

import "groutwork/api"

// line is the colours along a line between two rows, from the west to the east. Those beyond the width are 0.
type line [api.MaxWide]int

// row is a list of tiles each of which agrees with its neighbour to the east, with the colours around it.
type row struct {
	cells        [api.MaxWide]int
	north, south line
	east, west   int
}

// rowsOf returns all rows of a width, by the order of their cells.
func rowsOf(set []api.Tile, width int) []row {
	rows := []row{{}}
	for x := range width {
		var longer []row
		for _, r := range rows {
			for index, t := range set {
				if x == 0 || r.east == t.W {
					longer = append(longer, r.extended(x, index, t))
				}
			}
		}
		rows = longer
	}
	return rows
}

// extended returns the row with a tile in column x, behind its last one. The receiver is a copy: its arrays may be written to.
func (r row) extended(x, index int, t api.Tile) row {
	r.cells[x], r.north[x], r.south[x] = index, t.N, t.S
	r.east = t.E
	if x == 0 {
		r.west = t.W
	}
	return r
}
