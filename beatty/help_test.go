package beatty_test

import (
	"slices"
	"testing"

	"groutwork/api"
	"groutwork/beatty"
	"groutwork/tile"
)

const least, greatest = -1 << 63, 1<<63 - 1

func frac(num, den int) api.Frac { return api.Frac{Num: num, Den: den} }

func piece(factor, low, high api.Frac) api.Piece {
	return api.Piece{Factor: factor, Low: low, High: high}
}

// one returns the system of one piece.
func one(factor, low, high api.Frac) []api.Piece { return []api.Piece{piece(factor, low, high)} }

// kari is the system of P7.5.
func kari() []api.Piece {
	return []api.Piece{piece(frac(2, 1), frac(2, 3), frac(1, 1)), piece(frac(2, 3), frac(1, 1), frac(2, 1))}
}

// culik is the system of 3 from 1/3 to 2/3 and 1/2 from 2/3 to 2.
func culik() []api.Piece {
	return []api.Piece{piece(frac(3, 1), frac(1, 3), frac(2, 3)), piece(frac(1, 2), frac(2, 3), frac(2, 1))}
}

// bounce is a system in which every orbit comes back after two steps: 2 from 1/2 to 1 and 1/2 from 1 to 2.
func bounce() []api.Piece {
	return []api.Piece{piece(frac(2, 1), frac(1, 2), frac(1, 1)), piece(frac(1, 2), frac(1, 1), frac(2, 1))}
}

// full is a system of exactly MaxTiles tiles, most of them of the first piece.
func full() []api.Piece {
	return []api.Piece{piece(frac(12, 1), frac(0, 1), frac(82, 12)), piece(frac(1, 1), frac(0, 1), frac(3, 1))}
}

// tooMany is a system of one tile more than MaxTiles.
func tooMany() []api.Piece {
	l := full()
	l[1].High = frac(4, 1)
	return l
}

// numbers returns a function whose results differ as much as a simple rule makes them: each is from 0 to its argument - 1.
func numbers() func(int) int {
	state := uint64(1)
	return func(below int) int {
		state = state*6364136223846793005 + 1442695040888963407
		return int(state>>33) % below
	}
}

func divisor(a, b int) int {
	if a == 0 {
		return b
	}
	return divisor(b%a, a)
}

// mixedFactor returns a factor with parts up to `most`.
func mixedFactor(next func(int) int, most int) api.Frac {
	for {
		if f := frac(1+next(most), 1+next(most)); divisor(f.Num, f.Den) == 1 {
			return f
		}
	}
}

// mixedPiece returns a piece whose ends have denominators up to `fine`, and which is at most `wide` long.
func mixedPiece(next func(int) int, most, fine, wide int) api.Piece {
	for {
		low, high := 1+next(fine), 1+next(fine)
		from := next(api.MaxFactor)
		p := piece(mixedFactor(next, most), frac(from*low+next(low), low), frac(from*high+next(wide*high+1), high))
		if beatty.Valid([]api.Piece{p}) {
			return p
		}
	}
}

// mixedSystems returns systems of up to MaxPieces pieces, which may have numbers in common.
func mixedSystems(systems, most, fine, wide int) [][]api.Piece {
	next := numbers()
	var all [][]api.Piece
	for range systems {
		var l []api.Piece
		for range 1 + next(api.MaxPieces) {
			l = append(l, mixedPiece(next, most, fine, wide))
		}
		all = append(all, l)
	}
	return all
}

// closedSystems returns systems of two pieces, of which the first one ends where the second one begins, and each takes its ends to the outer ends: a from Low to 1, b from 1 to High.
func closedSystems() [][]api.Piece {
	all := [][]api.Piece{kari(), culik(), bounce()}
	for _, up := range []api.Frac{frac(2, 1), frac(3, 2), frac(3, 1), frac(7, 5), frac(12, 11), frac(5, 3)} {
		for _, down := range []api.Frac{frac(1, 2), frac(1, 3), frac(2, 3), frac(7, 10), frac(11, 12), frac(5, 9)} {
			all = append(all, []api.Piece{piece(up, down, frac(1, 1)), piece(down, frac(1, 1), up)})
		}
	}
	return all
}

// systems returns systems of all sorts whose tiles are a valid set.
func systems(t *testing.T) [][]api.Piece {
	t.Helper()
	all := [][]api.Piece{
		full(),
		one(frac(1, 1), frac(0, 1), frac(12, 1)),
		one(frac(1, 1), frac(1, 1), frac(2, 1)),
		one(frac(12, 11), frac(0, 1), frac(12, 1)),
		one(frac(11, 12), frac(0, 1), frac(12, 1)),
		one(frac(1, 12), frac(0, 1), frac(12, 1)),
		one(frac(12, 1), frac(11, 1), frac(12, 1)),
		one(frac(7, 11), frac(999, 1000), frac(1000, 999)),
		slices.Concat(kari(), kari(), kari()),
	}
	all = slices.Concat(all, closedSystems(), mixedSystems(60, 12, 4, 1), mixedSystems(60, 4, 12, 2), mixedSystems(30, 12, 1000, 1))
	return slices.DeleteFunc(all, func(l []api.Piece) bool {
		_, e := beatty.Tiles(l)
		if e != api.OK && e != api.ErrSize {
			t.Fatalf("Tiles of %v: error %d", l, e)
		}
		return e != api.OK
	})
}

// mixedNumbers returns numbers, at least one for each piece, that are in a piece.
func mixedNumbers(l []api.Piece, next func(int) int, n int) []api.Frac {
	var list []api.Frac
	for _, p := range l {
		list = append(list, p.Low)
	}
	for len(list) < n {
		den := 1 + next(1000)
		if x := frac(next(api.MaxFactor*den), den); firstPiece(l, rational(x)) >= 0 {
			list = append(list, x)
		}
	}
	return list
}

// tilesOf returns the result of Tiles, which has to be OK.
func tilesOf(t *testing.T, l []api.Piece) []api.Tile {
	t.Helper()
	set, e := beatty.Tiles(l)
	if e != api.OK || !tile.Valid(set) {
		t.Fatalf("Tiles of %v: %v, error %d", l, set, e)
	}
	return set
}

// orbitOf returns the result of Orbit, which has to be OK.
func orbitOf(t *testing.T, l []api.Piece, x api.Frac, width, height int) api.Pattern {
	t.Helper()
	p, e := beatty.Orbit(l, x, width, height)
	if e != api.OK || p.Width != width || p.Height != height || len(p.Cells) != width*height {
		t.Fatalf("Orbit of %v, %v, %d, %d: %d, %d, %d cells, error %d", l, x, width, height, p.Width, p.Height, len(p.Cells), e)
	}
	return p
}

// wantTiles checks the text of the result of Tiles.
func wantTiles(t *testing.T, l []api.Piece, want string) {
	t.Helper()
	set, e := beatty.Tiles(l)
	if text, f := tile.Text(set); e != api.OK || f != api.OK || text != want {
		t.Errorf("Tiles of %v: %q, error %d, want %q", l, text, e, want)
	}
}

// wantNoTiles checks an error of Tiles and Weigh and that there are only zero values with it.
func wantNoTiles(t *testing.T, what string, l []api.Piece, want api.Errno) {
	t.Helper()
	if set, e := beatty.Tiles(l); len(set) != 0 || e != want {
		t.Errorf("Tiles, %s: %v, error %d, want %d", what, set, e, want)
	}
	wantNoWeights(t, what, l, want)
}

// wantNoWeights checks an error of Weigh and that the weights with it are the zero value.
func wantNoWeights(t *testing.T, what string, l []api.Piece, want api.Errno) {
	t.Helper()
	w, e := beatty.Weigh(l)
	if len(w.Values)+len(w.Carries)+len(w.Factors)+len(w.Primes)+len(w.Logs) != 0 || e != want {
		t.Errorf("Weigh, %s: %v, error %d, want %d", what, w, e, want)
	}
}

// wantNoOrbit checks an error of Orbit and that the pattern with it is the zero value.
func wantNoOrbit(t *testing.T, what string, l []api.Piece, x api.Frac, width, height int, want api.Errno) {
	t.Helper()
	p, e := beatty.Orbit(l, x, width, height)
	if p.Width != 0 || p.Height != 0 || len(p.Cells) != 0 || e != want {
		t.Errorf("Orbit, %s: %d, %d, %d cells, error %d, want %d", what, p.Width, p.Height, len(p.Cells), e, want)
	}
}

// wantInvalid checks that pieces are not a system, for all functions.
func wantInvalid(t *testing.T, what string, l []api.Piece) {
	t.Helper()
	if beatty.Valid(l) {
		t.Errorf("%s: valid", what)
	}
	if closed, e := beatty.Closed(l); closed || e != api.ErrForm {
		t.Errorf("Closed, %s: %v, error %d", what, closed, e)
	}
	wantNoTiles(t, what, l, api.ErrForm)
	for _, x := range []api.Frac{frac(1, 1), frac(-1, 1), {}} {
		wantNoOrbit(t, what, l, x, 1, 1, api.ErrForm)
		wantNoOrbit(t, what, l, x, 0, greatest, api.ErrForm)
	}
}

func wantClosed(t *testing.T, l []api.Piece, want bool) {
	t.Helper()
	if closed, e := beatty.Closed(l); closed != want || e != api.OK {
		t.Errorf("Closed of %v: %v, error %d, want %v", l, closed, e, want)
	}
}
