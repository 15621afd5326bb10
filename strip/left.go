package strip

import "groutwork/api"

// settled takes elements from a list, round by round, until all are left. It returns these, and the number of rounds in which some were taken.
func settled[T any](list []T, left func([]T) []T) ([]T, int) {
	rounds := 0
	for {
		rest := left(list)
		if len(rest) == len(list) {
			return rest, rounds
		}
		list = rest
		rounds++
	}
}

// plane is a set of tiles with methods that take some of its indices, and return those that are left.
type plane []api.Tile

// enclosed leaves the tiles that have a neighbour at each side.
//
// What is left in the end is the core: there paths go on from neighbour to neighbour without an end, and a tile that has such paths is never taken.
func (p plane) enclosed(some []int) []int {
	var north, east, south, west colours
	for _, i := range some {
		north.add(p[i].N)
		east.add(p[i].E)
		south.add(p[i].S)
		west.add(p[i].W)
	}
	var left []int
	for _, i := range some {
		t := p[i]
		if south.has(t.N) && west.has(t.E) && north.has(t.S) && east.has(t.W) {
			left = append(left, i)
		}
	}
	return left
}

// leading leaves the tiles that have a neighbour to the east.
func (p plane) leading(some []int) []int {
	var west colours
	for _, i := range some {
		west.add(p[i].W)
	}
	var left []int
	for _, i := range some {
		if west.has(p[i].E) {
			left = append(left, i)
		}
	}
	return left
}
