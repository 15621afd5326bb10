package beatty_test

import (
	"fmt"
	"slices"
	"testing"

	"groutwork/api"
	"groutwork/beatty"
)

func TestValid(t *testing.T) {
	for _, p := range []api.Piece{
		piece(frac(1, 1), frac(0, 1), frac(12, 1)),
		piece(frac(12, 1), frac(0, 1), frac(1, 1000)),
		piece(frac(1, 12), frac(11, 1), frac(12, 1)),
		piece(frac(12, 11), frac(11999, 1000), frac(12, 1)),
		piece(frac(11, 12), frac(0, 1000), frac(12000, 1000)),
		// Low and High need not be in lowest terms.
		piece(frac(2, 3), frac(2, 4), frac(500, 999)),
		piece(frac(3, 2), frac(998, 999), frac(999, 1000)),
		piece(frac(5, 7), frac(0, 7), frac(24, 2)),
	} {
		if l := []api.Piece{p}; !beatty.Valid(l) {
			t.Errorf("%v: not valid", l)
		}
	}
	for _, l := range [][]api.Piece{kari(), culik(), bounce(), full(), tooMany(), slices.Concat(kari(), kari(), kari())} {
		if !beatty.Valid(l) {
			t.Errorf("%v: not valid", l)
		}
	}
}

// invalidPieces returns pieces for each way of not being valid.
func invalidPieces() []api.Piece {
	half, whole, two := frac(1, 2), frac(1, 1), frac(2, 1)
	list := []api.Piece{
		{},
		{Low: half, High: whole},
		{Factor: two, High: whole},
		{Factor: two, Low: half},
		// the factor
		piece(frac(0, 1), half, whole),
		piece(frac(1, 0), half, whole),
		piece(frac(-2, 1), half, whole),
		piece(frac(2, -1), half, whole),
		piece(frac(-2, -1), half, whole),
		piece(frac(13, 1), half, whole),
		piece(frac(1, 13), half, whole),
		piece(frac(13, 12), half, whole),
		piece(frac(2, 2), half, whole),
		piece(frac(4, 2), half, whole),
		piece(frac(12, 8), half, whole),
		piece(frac(9, 12), half, whole),
		// the order of the ends
		piece(two, whole, whole),
		piece(two, whole, half),
		piece(two, frac(1, 2), frac(2, 4)),
		piece(two, frac(999, 1000), frac(998, 999)),
		piece(two, frac(0, 1), frac(0, 2)),
		// where the ends are
		piece(two, frac(-1, 1), whole),
		piece(two, frac(-1, 1000), whole),
		piece(two, frac(-2, 1), frac(-1, 1)),
		piece(two, frac(-1, 1), frac(0, 1)),
		piece(two, whole, frac(12001, 1000)),
		piece(two, whole, frac(13, 1)),
		piece(two, frac(12, 1), frac(13, 1)),
		piece(two, whole, frac(api.MaxPart, 1)),
		// their denominators
		piece(two, frac(1, 1001), whole),
		piece(two, frac(1001, 1001), two),
		piece(two, frac(2, 1002), whole),
		piece(two, half, frac(1001, 1001)),
		piece(two, half, frac(2002, 1001)),
		piece(two, half, frac(api.MaxPart, api.MaxPart)),
		piece(two, frac(0, 1001), whole),
		piece(two, frac(1, 0), whole),
		piece(two, half, frac(1, 0)),
		piece(two, frac(0, 0), whole),
		piece(two, half, frac(0, 0)),
		piece(two, frac(1, -2), whole),
		piece(two, frac(-1, -2), whole),
		piece(two, half, frac(-1, -1)),
	}
	for _, f := range []api.Frac{frac(least, 1), frac(greatest, 1), frac(1, least), frac(1, greatest), frac(least, least), frac(greatest, greatest), frac(least, -1), frac(greatest, 1000), frac(1<<62, 1), frac(1<<32, 1<<32)} {
		list = append(list, piece(f, half, whole), piece(two, f, whole), piece(two, half, f), piece(f, f, f))
	}
	return list
}

// Whatever else is in the list, one piece that is not valid is enough.
func TestInvalid(t *testing.T) {
	for _, p := range invalidPieces() {
		what := fmt.Sprint(p)
		wantInvalid(t, what, []api.Piece{p})
		wantInvalid(t, what+" before others", append([]api.Piece{p}, kari()...))
		wantInvalid(t, what+" behind others", append(kari(), p))
		wantInvalid(t, what+" behind too many tiles", append(tooMany(), p))
	}
}

func TestNumberOfPieces(t *testing.T) {
	for n := range 10 {
		l := slices.Repeat(kari()[:1], n)
		if n < 1 || n > api.MaxPieces {
			wantInvalid(t, fmt.Sprint(n, " pieces"), l)
		} else if !beatty.Valid(l) {
			t.Errorf("%d pieces: not valid", n)
		}
	}
	wantInvalid(t, "many pieces", slices.Repeat(kari(), 100000))
}
