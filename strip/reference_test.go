package strip_test

import (
	"slices"

	"groutwork/api"
)

// way tells of a tile with which colour it begins and ends in a direction.
type way func(t api.Tile) (begin, end int)

func eastward(t api.Tile) (begin, end int)  { return t.W, t.E }
func westward(t api.Tile) (begin, end int)  { return t.E, t.W }
func northward(t api.Tile) (begin, end int) { return t.S, t.N }
func southward(t api.Tile) (begin, end int) { return t.N, t.S }

// endless returns for each tile whether a path without an end begins with it: one of more tiles than there are, as this comes back to a tile.
func endless(set []api.Tile, w way) []bool {
	goesOn := slices.Repeat([]bool{true}, len(set))
	for range set {
		longer := make([]bool, len(set))
		for i, t := range set {
			_, end := w(t)
			for j, u := range set {
				begin, _ := w(u)
				longer[i] = longer[i] || goesOn[j] && end == begin
			}
		}
		goesOn = longer
	}
	return goesOn
}

// slowCore returns the core as the chapter defines it: round by round without the tiles that are not passable both to the east and to the north.
func slowCore(set []api.Tile) []int {
	var core []int
	for i := range set {
		core = append(core, i)
	}
	for {
		rest := restOf(set, core)
		east, west, north, south := endless(rest, eastward), endless(rest, westward), endless(rest, northward), endless(rest, southward)
		var smaller []int
		for i, index := range core {
			if east[i] && west[i] && north[i] && south[i] {
				smaller = append(smaller, index)
			}
		}
		if len(smaller) == len(core) {
			return core
		}
		core = smaller
	}
}

// isRow reports whether each tile is the neighbour of the one before it.
func isRow(set []api.Tile, indices []int) bool {
	for x := range len(indices) - 1 {
		if set[indices[x]].E != set[indices[x+1]].W {
			return false
		}
	}
	return true
}

// allRows returns all rows of n tiles, in order: of all lists of indices, those that are rows.
func allRows(set []api.Tile, n int) [][]int {
	var rows [][]int
	for _, l := range lists(len(set), n) {
		if isRow(set, l) {
			rows = append(rows, l)
		}
	}
	return rows
}

// slowOn returns the tiles of b on a: of each one N, the pair of E, S and the pair of W.
func slowOn(a, b []api.Tile) (tiles [][6]int, from [][2]int) {
	for i, x := range a {
		for j, y := range b {
			t := [6]int{y.N, x.E, y.E, x.S, x.W, y.W}
			if x.N == y.S && !slices.Contains(tiles, t) {
				tiles = append(tiles, t)
				from = append(from, [2]int{i, j})
			}
		}
	}
	return tiles, from
}

// pairsMet returns the pairs of the tiles of slowOn by their numbers.
func pairsMet(tiles [][6]int) [][2]int {
	var pairs [][2]int
	for _, t := range tiles {
		for _, pair := range [][2]int{{t[1], t[2]}, {t[4], t[5]}} {
			if !slices.Contains(pairs, pair) {
				pairs = append(pairs, pair)
			}
		}
	}
	return pairs
}

// columnRows returns all lists of n columns of two tiles, the lower one of a and the upper one of b, that are patterns.
func columnRows(a, b []api.Tile, n int) [][][2]int {
	rows := [][][2]int{{}}
	for range n {
		var longer [][][2]int
		for _, r := range rows {
			for i, x := range a {
				for j, y := range b {
					if x.N != y.S {
						continue
					}
					if len(r) > 0 {
						last := r[len(r)-1]
						if a[last[0]].E != x.W || b[last[1]].E != y.W {
							continue
						}
					}
					longer = append(longer, append(slices.Clone(r), [2]int{i, j}))
				}
			}
		}
		rows = longer
	}
	return rows
}
