package strip

import (
	"slices"

	"groutwork/api"
	"groutwork/tile"
)

// Path returns the first row of a length between two colours.
func Path(set []api.Tile, from, to, n int) ([]int, api.Errno) {
	if !tile.Valid(set) {
		return nil, api.ErrForm
	}
	if n < 1 || n > api.MaxCells {
		return nil, api.ErrArg
	}
	// No row begins or ends with a number that is no colour.
	if !isColour(from) || !isColour(to) {
		return nil, api.ErrNone
	}
	starts := startsTo(set, to, n)
	if !starts[n].has(from) {
		return nil, api.ErrNone
	}
	return firstPath(set, from, starts), api.OK
}

// startsTo returns for each length up to n the colours with which the rows of this length begin that end with a colour.
func startsTo(set []api.Tile, to, n int) []colours {
	starts := make([]colours, n+1)
	starts[0].add(to)
	for length := range n {
		for _, t := range set {
			if starts[length].has(t.E) {
				starts[length+1].add(t.W)
			}
		}
	}
	return starts
}

// firstPath returns the first row from a colour through all the starts, from the longest one down. There has to be one.
func firstPath(set []api.Tile, from int, starts []colours) []int {
	path := make([]int, len(starts)-1)
	at := from
	for i := range path {
		rest := &starts[len(path)-1-i]
		path[i] = slices.IndexFunc(set, func(t api.Tile) bool { return t.W == at && rest.has(t.E) })
		at = set[path[i]].E
	}
	return path
}
