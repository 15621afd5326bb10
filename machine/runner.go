package machine

import (
	"slices"

	"groutwork/api"
)

// runner is a configuration that a machine changes step by step. Its cells are its own.
type runner struct {
	api.Config
	machine api.Machine
}

func start(m api.Machine, c api.Config) *runner {
	c.Cells = slices.Clone(c.Cells)
	return &runner{Config: c, machine: m}
}

func actionFor(m api.Machine, state, symbol int) api.Action {
	return m.Actions[state*m.Symbols+symbol]
}

// step does a step. If there is none, it changes nothing and returns why.
func (r *runner) step() api.Errno {
	a := actionFor(r.machine, r.State, r.Cells[r.At])
	if stops(r.machine, a) {
		return api.ErrState
	}
	next := neighbour(r.At, a.Move)
	if next < 0 || next >= len(r.Cells) {
		return api.ErrNone
	}
	r.Cells[r.At] = a.Write
	r.State, r.At = a.Next, next
	return api.OK
}

func neighbour(at, move int) int {
	if move == api.East {
		return at + 1
	}
	return at - 1
}

// row does a step, and returns the tiles between the colours before it, to the south, and those after it, to the north.
func (r *runner) row() ([]api.Tile, bool) {
	var row []api.Tile
	for _, s := range r.Cells {
		row = append(row, idle(s))
	}
	from, state, symbol := r.At, r.State, r.Cells[r.At]
	if r.step() != api.OK {
		return nil, false
	}
	move := actionFor(r.machine, state, symbol).Move
	row[from] = leaving(r.machine, state, symbol)
	row[r.At] = coming(r.machine, move, r.State, r.Cells[r.At])
	return row, true
}

// cellsOf returns the cells of the picture of a run, if there are as many steps.
func cellsOf(m api.Machine, c api.Config, height int) ([]int, bool) {
	indices := map[api.Tile]int{}
	for i, t := range tilesOf(m) {
		indices[t] = i
	}
	r := start(m, c)
	var cells []int
	for range height {
		row, ok := r.row()
		if !ok {
			return nil, false
		}
		for _, t := range row {
			cells = append(cells, indices[t])
		}
	}
	return cells, true
}
