package beatty_test

import (
	"fmt"
	"slices"
	"testing"

	"groutwork/api"
	"groutwork/beatty"
	"groutwork/tile"
)

func TestTiles(t *testing.T) {
	for _, c := range []struct {
		l    []api.Piece
		want string
	}{
		{one(frac(1, 1), frac(1, 1), frac(2, 1)), "1.0.1.0 2.0.2.0"},
		{one(frac(1, 1), frac(0, 1), frac(1, 1000)), "0.0.0.0 1.0.1.0"},
		{one(frac(1, 1), frac(1, 2), frac(3, 2)), "0.0.0.0 1.0.1.0 2.0.2.0"},
		{one(frac(2, 1), frac(1, 2), frac(1, 1)), "1.0.0.1 1.1.1.0 2.0.1.0 2.1.1.1"},
		// The tiles of the second piece have carries of their own, though they are the same numbers.
		{[]api.Piece{piece(frac(1, 1), frac(1, 1), frac(2, 1)), piece(frac(1, 1), frac(2, 1), frac(3, 1))}, "1.0.1.0 2.0.2.0 2.1.2.1 3.1.3.1"},
		{slices.Repeat(one(frac(1, 1), frac(1, 1), frac(2, 1)), 2), "1.0.1.0 2.0.2.0 1.1.1.1 2.1.2.1"},
		// The carries of the half are 0 and 1/2.
		{one(frac(1, 2), frac(1, 1), frac(2, 1)), "0.1.1.0 1.0.1.1 1.0.2.0 1.1.2.1"},
	} {
		wantTiles(t, c.l, c.want)
		set, _ := coloured(c.l)
		if text, _ := tile.Text(set); text != c.want {
			t.Errorf("the tests do not agree: %q, want %q", text, c.want)
		}
	}
}

func TestTilesLikeReference(t *testing.T) {
	for _, l := range systems(t) {
		want, _ := coloured(l)
		if set := tilesOf(t, l); !slices.Equal(set, want) {
			t.Errorf("%v: %v, want %v", l, set, want)
		}
	}
}

// The tests' own tiles, too, are compared: with those of all a and x on a grid. Each region of a and x that gives one tile has a point of it inside.
func TestTilesOnGrid(t *testing.T) {
	next := numbers()
	for range 40 {
		p := mixedPiece(next, 6, 3, 1)
		m := 3 * p.Factor.Num * p.Low.Den * p.High.Den
		found := map[made]bool{}
		for a := p.Low.Num * (m / p.Low.Den); a < p.High.Num*(m/p.High.Den); a++ {
			for x := range m {
				for n := range p.Factor.Den {
					found[makeTile(0, p.Factor, a, x, m, n)] = true
				}
			}
		}
		list := allMade([]api.Piece{p})
		if len(list) != len(found) {
			t.Errorf("%v: %d tiles, want %d", p, len(list), len(found))
		}
		for _, made := range list {
			if !found[made] {
				t.Errorf("%v: %v is not on the grid", p, made)
			}
		}
	}
}

// Fractions that are not in lowest terms are the same numbers.
func TestTilesOfMultiples(t *testing.T) {
	for _, l := range mixedSystems(50, 6, 12, 1) {
		multiple := slices.Clone(l)
		for i, p := range l {
			multiple[i].Low = frac(p.Low.Num*3, p.Low.Den*3)
			multiple[i].High = frac(p.High.Num*80, p.High.Den*80)
		}
		set, e := beatty.Tiles(l)
		other, f := beatty.Tiles(multiple)
		if !slices.Equal(set, other) || e != f {
			t.Errorf("%v: %v, error %d, but %v, error %d", l, set, e, other, f)
		}
	}
}

func TestTooManyTiles(t *testing.T) {
	if n := len(tilesOf(t, full())); n != api.MaxTiles {
		t.Errorf("%d tiles", n)
	}
	whole := one(frac(12, 1), frac(0, 1), frac(12, 1))
	for _, l := range [][]api.Piece{tooMany(), whole, slices.Repeat(whole, 6), append(full(), kari()...)} {
		if n := len(allMade(l)); n <= api.MaxTiles {
			t.Errorf("%v: %d tiles", l, n)
		}
		wantNoTiles(t, fmt.Sprint(l), l, api.ErrSize)
		for _, x := range []api.Frac{frac(1, 1), frac(-1, 1)} {
			for _, side := range []int{1, 0, greatest} {
				wantNoOrbit(t, fmt.Sprint(l), l, x, side, side, api.ErrSize)
			}
			wantNoOrbit(t, fmt.Sprint(l), l, frac(1, 0), 1, 1, api.ErrForm)
		}
	}
}

// The tiles come piece by piece, and in each piece by S, N and then by the carry to the west, which rises with its colour.
func TestOrderOfTiles(t *testing.T) {
	for _, l := range systems(t) {
		set := tilesOf(t, l)
		list := allMade(l)
		for i, tile := range set[1:] {
			if list[i].piece != list[i+1].piece {
				if tile.W <= set[i].W || tile.W <= set[i].E {
					t.Errorf("%v: %v, then %v of the next piece", l, set[i], tile)
				}
				continue
			}
			before, after := []int{set[i].S, set[i].N, set[i].W}, []int{tile.S, tile.N, tile.W}
			if slices.Compare(before, after) >= 0 {
				t.Errorf("%v: %v, then %v", l, set[i], tile)
			}
		}
	}
}

// Each piece alone has the same tiles as in the system, but for the names of the colours to the west and to the east.
func TestTilesPieceByPiece(t *testing.T) {
	for _, l := range systems(t) {
		var all []api.Tile
		first := 0
		for i := range l {
			end := first
			for _, tile := range tilesOf(t, l[i:i+1]) {
				tile.E += first
				tile.W += first
				end = max(end, tile.E+1, tile.W+1)
				all = append(all, tile)
			}
			first = end
		}
		if set := tilesOf(t, l); !slices.Equal(set, all) {
			t.Errorf("%v: %v, piece by piece %v", l, set, all)
		}
	}
}
