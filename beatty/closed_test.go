package beatty_test

import (
	"slices"
	"testing"

	"groutwork/api"
	"groutwork/beatty"
)

func TestClosed(t *testing.T) {
	for _, l := range closedSystems() {
		wantClosed(t, l, true)
		// The order does not matter.
		slices.Reverse(l)
		wantClosed(t, l, true)
		// Pieces that are in the list twice do not matter either.
		wantClosed(t, append(l, l...), true)
		// Nothing is left of the numbers that one piece goes to.
		wantClosed(t, l[:1], false)
		wantClosed(t, l[1:], false)
	}
	for _, l := range [][]api.Piece{
		one(frac(1, 1), frac(1, 1), frac(2, 1)),
		one(frac(1, 1), frac(0, 1), frac(12, 1)),
		one(frac(1, 1), frac(998, 999), frac(999, 1000)),
		one(frac(1, 2), frac(0, 1), frac(12, 1)),
		one(frac(1, 12), frac(0, 1), frac(1, 1000)),
	} {
		wantClosed(t, l, true)
	}
	// Closed does not need the tiles, however many there are.
	wantClosed(t, tooMany(), false)
	wantClosed(t, append(tooMany(), piece(frac(1, 12), frac(0, 1), frac(12, 1))), false)
	wantClosed(t, []api.Piece{piece(frac(12, 1), frac(0, 1), frac(1, 1)), piece(frac(11, 12), frac(0, 1), frac(12, 1))}, true)
}

// A piece has its Low, but not its High.
func TestClosedEnds(t *testing.T) {
	for _, c := range []struct {
		low, middle, begin, high api.Frac
		want                     bool
	}{
		{frac(2, 3), frac(1, 1), frac(1, 1), frac(2, 1), true},
		{frac(2, 3), frac(1, 1), frac(999, 1000), frac(2, 1), false},
		{frac(666, 1000), frac(1, 1), frac(999, 1000), frac(2, 1), true},
		{frac(2, 3), frac(1, 1), frac(1001, 1000), frac(2, 1), false},
		{frac(2, 3), frac(999, 1000), frac(1, 1), frac(2, 1), false},
		{frac(2, 3), frac(1, 1), frac(1, 1), frac(1999, 1000), false},
		{frac(2, 3), frac(1, 1), frac(1, 1), frac(2001, 1000), true},
		{frac(667, 1000), frac(1, 1), frac(1, 1), frac(2, 1), false},
		{frac(665, 999), frac(1, 1), frac(1, 1), frac(2, 1), true},
		{frac(666, 999), frac(12, 12), frac(1000, 1000), frac(2000, 1000), true},
		{frac(667, 999), frac(1, 1), frac(1, 1), frac(2, 1), false},
	} {
		l := []api.Piece{piece(frac(2, 1), c.low, c.middle), piece(frac(2, 3), c.begin, c.high)}
		wantClosed(t, l, c.want)
		slices.Reverse(l)
		wantClosed(t, l, c.want)
	}
}

// Pieces that have numbers in common are each taken to somewhere, whichever comes first.
func TestClosedOverlap(t *testing.T) {
	wide := piece(frac(1, 1), frac(1, 1), frac(2, 1))
	for _, c := range []struct {
		p    api.Piece
		want bool
	}{
		{piece(frac(1, 1), frac(5, 4), frac(3, 2)), true},
		{piece(frac(4, 3), frac(5, 4), frac(3, 2)), true},
		{piece(frac(3, 2), frac(5, 4), frac(3, 2)), false},
		{piece(frac(4, 5), frac(5, 4), frac(3, 2)), true},
		{piece(frac(3, 4), frac(5, 4), frac(3, 2)), false},
		{piece(frac(4, 3), frac(5, 4), frac(1501, 1000)), false},
	} {
		wantClosed(t, []api.Piece{wide, c.p}, c.want)
		wantClosed(t, []api.Piece{c.p, wide}, c.want)
	}
	// Many pieces together are as good as one.
	var parts []api.Piece
	for i := range 5 {
		parts = append(parts, piece(frac(1, 1), frac(5+i, 5), frac(6+i, 5)))
	}
	for i := range parts {
		wantClosed(t, append(slices.Clone(parts), piece(frac(1, 2), frac(2, 1), frac(4, 1))), true)
		gap := slices.Delete(slices.Clone(parts), i, i+1)
		wantClosed(t, append(gap, piece(frac(1, 2), frac(2, 1), frac(4, 1))), false)
		slices.Reverse(parts)
	}
}

func TestClosedLikeReference(t *testing.T) {
	counts := map[bool]int{}
	all := append(mixedSystems(300, 3, 3, 6), closedSystems()[:8]...)
	next := numbers()
	for range 300 {
		l := []api.Piece{mixedPiece(next, 3, 2, 12), piece(frac(1, 2), frac(0, 1), frac(1+next(12), 1)), mixedPiece(next, 3, 2, 3)}
		all = append(all, l)
	}
	for _, l := range all {
		want := isClosed(l)
		counts[want]++
		wantClosed(t, l, want)
	}
	if counts[true] < 50 || counts[false] < 50 {
		t.Errorf("closed or not: %v", counts)
	}
}

// P7.3: no orbit in a closed system leaves it.
func TestClosedKeepsOrbits(t *testing.T) {
	next := numbers()
	for _, l := range slices.Concat(systems(t), mixedSystems(200, 3, 3, 6)) {
		closed, e := beatty.Closed(l)
		if e != api.OK {
			t.Fatalf("%v: error %d", l, e)
		}
		if !closed {
			continue
		}
		for _, x := range mixedNumbers(l, next, 8) {
			for height := 1; height <= 60; height++ {
				if _, e := beatty.Orbit(l, x, 1, height); e == api.ErrNone {
					t.Fatalf("%v is closed, but %v leaves it within %d rows", l, x, height)
				}
			}
		}
	}
}
