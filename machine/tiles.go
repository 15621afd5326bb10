package machine

import "groutwork/api"

// tilesOf returns the tiles of a machine, in the order of the chapter.
func tilesOf(m api.Machine) []api.Tile {
	var idles, leaves, comes []api.Tile
	for s := range m.Symbols {
		idles = append(idles, idle(s))
	}
	for q := range m.States {
		for s := range m.Symbols {
			if !stops(m, actionFor(m, q, s)) {
				leaves = append(leaves, leaving(m, q, s))
			}
			comes = append(comes, coming(m, api.East, q, s), coming(m, api.West, q, s))
		}
	}
	return append(append(idles, leaves...), comes...)
}

// idle returns the tile of a cell at which nothing happens.
func idle(symbol int) api.Tile { return api.Tile{N: symbol, S: symbol} }

// leaving returns the tile of a cell that the head leaves: the signal goes out at the side to which it moves.
func leaving(m api.Machine, state, symbol int) api.Tile {
	a := actionFor(m, state, symbol)
	t := api.Tile{N: a.Write, S: colourAtHead(m, state, symbol)}
	*sides(&t)[a.Move] = signal(m, a.Move, a.Next)
	return t
}

// coming returns the tile of a cell to which the head comes: the signal comes in at the side that is opposite to the move.
func coming(m api.Machine, move, state, symbol int) api.Tile {
	t := api.Tile{N: colourAtHead(m, state, symbol), S: symbol}
	*sides(&t)[opposite(move)] = signal(m, move, state)
	return t
}

// sides returns the sides of a tile at which signals may be, by the moves.
func sides(t *api.Tile) [api.Moves]*int {
	return [api.Moves]*int{api.West: &t.W, api.East: &t.E}
}

func opposite(move int) int {
	if move == api.East {
		return api.West
	}
	return api.East
}

// signal returns the colour to the west or to the east with which the head moves into a state.
func signal(m api.Machine, move, state int) int {
	if move == api.East {
		return 1 + state
	}
	return 1 + m.States + state
}
