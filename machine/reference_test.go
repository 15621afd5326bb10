package machine_test

import (
	"slices"

	"groutwork/api"
)

// What follows is as the chapter defines it, word by word, or by trying all tiles.

// slowStep returns the configuration after a step, or why there is none. The cells are made anew.
func slowStep(m api.Machine, c api.Config) (api.Config, api.Errno) {
	var a api.Action
	for q := range m.States {
		for s := range m.Symbols {
			if c.State == q && c.Cells[c.At] == s {
				a = m.Actions[q*m.Symbols+s]
			}
		}
	}
	if a.Next == m.States {
		return api.Config{}, api.ErrState
	}
	west, east := c.Cells[:c.At], c.Cells[c.At+1:]
	cells := slices.Concat(west, []int{a.Write}, east)
	switch {
	case a.Move == api.East && len(east) > 0:
		return config(a.Next, len(west)+1, cells...), api.OK
	case a.Move == api.West && len(west) > 0:
		return config(a.Next, len(west)-1, cells...), api.OK
	}
	return api.Config{}, api.ErrNone
}

// follow returns the configurations of a run, the first one included, up to n steps, and why it ends before, if it does.
func follow(m api.Machine, c api.Config, n int) ([]api.Config, api.Errno) {
	run := []api.Config{c}
	for range n {
		next, e := slowStep(m, run[len(run)-1])
		if e != api.OK {
			return run, e
		}
		run = append(run, next)
	}
	return run, api.OK
}

// slowTiles returns the tiles of a machine, one list after the other.
func slowTiles(m api.Machine) []api.Tile {
	var set []api.Tile
	for s := range m.Symbols {
		set = append(set, api.Tile{N: s, E: 0, S: s, W: 0})
	}
	for i, a := range m.Actions {
		if a.Next == m.States {
			continue
		}
		if a.Move == api.East {
			set = append(set, api.Tile{N: a.Write, E: 1 + a.Next, S: m.Symbols + i, W: 0})
		} else {
			set = append(set, api.Tile{N: a.Write, E: 0, S: m.Symbols + i, W: 1 + m.States + a.Next})
		}
	}
	for q := range m.States {
		for s := range m.Symbols {
			both := m.Symbols + q*m.Symbols + s
			set = append(set, api.Tile{N: both, E: 0, S: s, W: 1 + q})
			set = append(set, api.Tile{N: both, E: 1 + m.States + q, S: s, W: 0})
		}
	}
	return set
}

func slowColours(m api.Machine, c api.Config) []int {
	var l []int
	for i, s := range c.Cells {
		if i == c.At {
			l = append(l, m.Symbols+c.State*m.Symbols+s)
		} else {
			l = append(l, s)
		}
	}
	return l
}

// rowsOver returns the first rows of tiles, up to two of them, by their indices, with these colours to the south and 0 at the west end and at the east end.
func rowsOver(set []api.Tile, souths []int) [][]int {
	var rows [][]int
	var extend func(row []int, west int)
	extend = func(row []int, west int) {
		if len(row) == len(souths) {
			if west == 0 {
				rows = append(rows, slices.Clone(row))
			}
			return
		}
		for i, t := range set {
			if len(rows) < 2 && t.S == souths[len(row)] && t.W == west {
				extend(append(row, i), t.E)
			}
		}
	}
	extend(nil, 0)
	return rows
}

func southsOf(set []api.Tile, row []int) []int {
	var l []int
	for _, i := range row {
		l = append(l, set[i].S)
	}
	return l
}

func northsOf(set []api.Tile, row []int) []int {
	var l []int
	for _, i := range row {
		l = append(l, set[i].N)
	}
	return l
}

func rowOf(p api.Pattern, y int) []int { return p.Cells[y*p.Width : (y+1)*p.Width] }
