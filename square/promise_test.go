package square_test

import (
	"slices"
	"testing"

	"groutwork/api"
	"groutwork/fill"
	"groutwork/square"
	"groutwork/tile"
	"groutwork/torus"
)

// squares is of which sides there are squares, as far as they have to be told: index 0 is unused.
type squares []bool

// eachSquares calls f with sets, and of which sides they have squares.
func eachSquares(t *testing.T, f func(set []api.Tile, has squares)) {
	some, none := 0, 0
	for _, set := range someSets(t) {
		has := squaresOf(t, set)
		for _, is := range has[1:] {
			if is {
				some++
			} else {
				none++
			}
		}
		f(set, has)
	}
	if some == 0 || none == 0 {
		t.Errorf("%d are there, %d are not", some, none)
	}
}

func squaresOf(t *testing.T, set []api.Tile) squares {
	t.Helper()
	has := squares{false}
	for side := 1; side <= mostSide(len(set)); side++ {
		has = append(has, exists(t, set, side))
	}
	return has
}

// P5.1 (P2): without a square of a side, no pattern is as wide and as high.
func TestNoMore(t *testing.T) {
	eachSquares(t, func(set []api.Tile, has squares) {
		side := slices.Index(has[1:], false) + 1
		if side == 0 {
			return
		}
		for width := side; width < len(has); width++ {
			for _, height := range []int{side, side + 1, side + 2, 20, api.MaxHigh} {
				if p, e := fill.First(set, width, height, api.Edges{}); e != api.ErrNone {
					t.Fatalf("%v: no square of %d, but %v, error %d", set, side, p, e)
				}
			}
		}
	})
}

// P5.1, the other way round: where there are patterns, there are squares.
func TestSquaresInPatterns(t *testing.T) {
	eachSquares(t, func(set []api.Tile, has squares) {
		for width := 1; width < len(has); width++ {
			for height := 1; height < len(has); height++ {
				if _, e := fill.First(set, width, height, api.Edges{}); e == api.OK && !has[min(width, height)] {
					t.Fatalf("%v: %d by %d, but no square", set, width, height)
				}
			}
		}
	})
}

// P5.2: if there is a square of a side, there are smaller ones.
func TestFalling(t *testing.T) {
	eachSquares(t, func(set []api.Tile, has squares) {
		for side := 2; side < len(has); side++ {
			if has[side] && !has[side-1] {
				t.Fatalf("%v: a square of %d, but none of %d", set, side, side-1)
			}
		}
	})
}

// parts returns all parts of a set.
func parts(set []api.Tile) [][]api.Tile {
	all := [][]api.Tile{nil}
	for _, t := range set {
		for _, part := range all {
			all = append(all, append(slices.Clone(part), t))
		}
	}
	return all
}

// P5.3: what a set cannot fill, a part of it cannot either. A greatest square of the part is not greater.
func TestSubset(t *testing.T) {
	smaller := 0
	eachSquares(t, func(set []api.Tile, has squares) {
		for _, part := range parts(set) {
			for side := 1; side < len(has); side++ {
				is := exists(t, part, side)
				if is && !has[side] {
					t.Fatalf("%v has no square of %d, but its part %v has", set, side, part)
				}
				if !is && has[side] {
					smaller++
				}
			}
			most := len(has) - 1
			if n, e := square.Largest(set, most); e == api.OK {
				if m, f := square.Largest(part, most); f != api.OK || m > n {
					t.Fatalf("%v: up to %d, but its part %v: %d, error %d", set, n, part, m, f)
				}
			}
		}
	})
	if smaller == 0 {
		t.Error("all parts have the same squares")
	}
}

// P5.4 (P1): a set with a torus has squares of every side.
func TestTorus(t *testing.T) {
	tori := map[int]int{}
	eachSquares(t, func(set []api.Tile, has squares) {
		p, e := torus.Least(set, min(api.MaxPeriod, len(has)-1))
		if e == api.ErrNone {
			return
		}
		if e != api.OK || slices.Contains(has[1:], false) {
			t.Fatalf("%v has the torus %v, error %d, and the squares %v", set, p, e, has)
		}
		if n, e := square.Largest(set, len(has)-1); e != api.ErrNone || n != 0 {
			t.Fatalf("%v has the torus %v, and Largest is %d, error %d", set, p, n, e)
		}
		tori[len(set)]++
	})
	if len(tori) < 4 {
		t.Errorf("tori only for these numbers of tiles: %v", tori)
	}
}

// Sets of up to three tiles without a torus have a greatest square; it is told even if squares of MaxSide are too great to be tried.
func TestSmallSets(t *testing.T) {
	told := 0
	for _, set := range slices.Concat(pairSets(), mixedSets(300, 3, 2), mixedSets(300, 3, 3), mixedSets(100, 3, 4)) {
		_, periods := torus.Least(set, api.MaxPeriod)
		n, e := square.Largest(set, api.MaxSide)
		if periods == api.OK {
			if e != api.ErrNone && e != api.ErrSize || n != 0 {
				t.Fatalf("%v has a torus, and Largest is %d, error %d", set, n, e)
			}
			continue
		}
		told++
		if e != api.OK || n > 0 && !hasSquare(set, n) || hasSquare(set, n+1) {
			t.Fatalf("%v: Largest is %d, error %d", set, n, e)
		}
	}
	if told < 100 {
		t.Errorf("%d are told", told)
	}
}

// Turned sets have the turned squares, and the order of the tiles does not matter.
func TestTurned(t *testing.T) {
	backward := func(set []api.Tile) ([]api.Tile, api.Errno) {
		other := slices.Clone(set)
		slices.Reverse(other)
		return other, api.OK
	}
	eachSquares(t, func(set []api.Tile, has squares) {
		for _, change := range []func([]api.Tile) ([]api.Tile, api.Errno){tile.Mirror, tile.Upturn, tile.Turn, backward} {
			changed, e := change(set)
			if e != api.OK {
				t.Fatalf("error %d", e)
			}
			if got := squaresOf(t, changed); !slices.Equal(got, has) {
				t.Fatalf("%v: %v, but %v of %v", set, has, got, changed)
			}
			n, e := square.Largest(set, api.MaxSide)
			if m, f := square.Largest(changed, api.MaxSide); m != n || f != e {
				t.Fatalf("%v: %d, error %d, but %d, error %d of %v", set, n, e, m, f, changed)
			}
		}
	})
}
