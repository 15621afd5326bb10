package beatty_test

import (
	"fmt"
	"slices"
	"testing"

	"groutwork/api"
	"groutwork/beatty"
	"groutwork/tile"
)

// The examples: the rows of the orbit of 1 are 1, 2/3, 4/3, 8/9, and those of the factor 1 have the digits 1 and 2.
func TestOrbit(t *testing.T) {
	set := tilesOf(t, kari())
	p := orbitOf(t, kari(), frac(1, 1), 30, 4)
	for y, a := range []api.Frac{frac(1, 1), frac(2, 3), frac(4, 3), frac(8, 9)} {
		for c := range 30 {
			if s := set[p.Cells[y*30+c]].S; s != digit(c, rational(a)) {
				t.Errorf("row %d, column %d: %d", y, c, s)
			}
		}
	}
	equal := one(frac(1, 1), frac(1, 1), frac(2, 1))
	p = orbitOf(t, equal, frac(5, 3), 6, 2)
	if want := []int{0, 1, 1, 0, 1, 1, 0, 1, 1, 0, 1, 1}; !slices.Equal(p.Cells, want) {
		t.Errorf("%v, want %v", p.Cells, want)
	}
	for _, p := range []api.Pattern{orbitOf(t, equal, frac(1, 1), 1, 1), orbitOf(t, equal, frac(7, 7), 1, 1)} {
		if !slices.Equal(p.Cells, []int{0}) {
			t.Errorf("%v", p)
		}
	}
	zero := one(frac(5, 2), frac(0, 1), frac(1, 1))
	p = orbitOf(t, zero, frac(0, 9), 100, 400)
	if set := tilesOf(t, zero); slices.ContainsFunc(p.Cells, func(i int) bool { return set[i].S != 0 || set[i].N != 0 || set[i].E != set[i].W }) {
		t.Errorf("the digits of 0 are not 0")
	}
}

func TestOrbitLikeReference(t *testing.T) {
	next := numbers()
	found := map[api.Errno]int{}
	for _, l := range systems(t) {
		for _, x := range mixedNumbers(l, next, 8) {
			width, height := 1+next(12), 1+next(30)
			cells, want := slowOrbit(l, x, width, height)
			found[want]++
			if want != api.OK {
				wantNoOrbit(t, fmt.Sprint(l, x, width, height), l, x, width, height, want)
			} else if p := orbitOf(t, l, x, width, height); !slices.Equal(p.Cells, cells) {
				t.Errorf("%v, %v, %d, %d: %v, want %v", l, x, width, height, p.Cells, cells)
			}
		}
	}
	if found[api.OK] < 100 || found[api.ErrNone] < 100 || found[api.ErrSize] < 10 {
		t.Errorf("errors: %v", found)
	}
}

// longest returns the greatest height up to which the orbit of x goes on, and the error of one row more.
func longest(l []api.Piece, x api.Frac) (int, api.Errno) {
	list, e := follow(l, x, 1000)
	return len(list) - 1, e
}

// The parts of the numbers may be as great as MaxLong, and those of the number after the last row still greater.
func TestLongNumbers(t *testing.T) {
	low, high := frac(0, 1), frac(12, 1)
	mixed := []api.Piece{piece(frac(3, 2), low, frac(2, 1)), piece(frac(1, 2), frac(2, 1), high)}
	for _, c := range []struct {
		what   string
		l      []api.Piece
		x      api.Frac
		height int
		end    api.Errno
	}{
		{"2^60 is not long", one(frac(1, 2), low, high), frac(1, 1), 61, api.ErrSize},
		{"a numerator that is greater", mixed, frac(11, 1), 59, api.ErrSize},
		{"a product of 12 * 2^60, nearly, to the denominator", one(frac(11, 12), low, high), frac(999999, 129301), 13, api.ErrSize},
		{"a product of 12 * 2^60, nearly, to the numerator", one(frac(12, 11), low, high), frac(129301, 100003), 13, api.ErrSize},
		{"long, and in no piece", one(frac(11, 12), frac(6, 25), high), frac(1, 1), 17, api.ErrNone},
		{"long, and then in no piece", one(frac(11, 12), frac(1, 5), high), frac(1, 1), 17, api.ErrSize},
		{"in no piece, and long then", one(frac(11, 12), frac(1, 4), high), frac(1, 1), 16, api.ErrNone},
	} {
		if n, e := longest(c.l, c.x); n != c.height || e != c.end {
			t.Errorf("%s: the tests do not agree: %d rows, error %d", c.what, n, e)
		}
		for _, more := range []int{1, 2, 10, 100} {
			wantNoOrbit(t, c.what, c.l, c.x, 3, c.height+more, c.end)
		}
		p := orbitOf(t, c.l, c.x, 50, c.height)
		if cells, _ := slowOrbit(c.l, c.x, 50, c.height); !slices.Equal(p.Cells, cells) {
			t.Errorf("%s: %v, want %v", c.what, p.Cells, cells)
		}
		// In columns far to the east, too, nothing overflows.
		wide := orbitOf(t, c.l, c.x, api.MaxCells/c.height, c.height)
		if set := tilesOf(t, c.l); !tile.Fits(set, wide) {
			t.Errorf("%s: not a pattern", c.what)
		}
		part, e := tile.Cut(wide, 0, 0, 50, c.height)
		if e != api.OK || !slices.Equal(part.Cells, p.Cells) {
			t.Errorf("%s: another pattern with a greater width", c.what)
		}
	}
}

// Numbers in several pieces go on with the first one.
func TestFirstPiece(t *testing.T) {
	up, down := piece(frac(4, 3), frac(0, 1), frac(12, 1)), piece(frac(3, 4), frac(1, 1), frac(12, 1))
	for _, c := range []struct {
		l     []api.Piece
		south []int
	}{
		{[]api.Piece{up, down}, []int{3, 4, 5, 7}},
		{[]api.Piece{down, up}, []int{3, 2, 1, 1}},
	} {
		set := tilesOf(t, c.l)
		p := orbitOf(t, c.l, frac(3, 1), 1, 4)
		for y, want := range c.south {
			if s := set[p.Cells[y]].S; s != want {
				t.Errorf("%v, row %d: %d, want %d", c.l, y, s, want)
			}
		}
	}
	// Of equal pieces, too: its tiles come first.
	twice := append(kari(), kari()...)
	if p, q := orbitOf(t, twice, frac(1, 1), 20, 20), orbitOf(t, kari(), frac(1, 1), 20, 20); !slices.Equal(p.Cells, q.Cells) {
		t.Errorf("%v, want %v", p.Cells, q.Cells)
	}
}

// A piece has its Low, but not its High.
func TestOrbitAtEnds(t *testing.T) {
	l := kari()
	orbitOf(t, l, frac(2, 3), 5, 5)
	orbitOf(t, l, frac(666667, 1000000), 5, 2)
	orbitOf(t, l, frac(999999, 500000), 5, 2)
	for _, x := range []api.Frac{frac(2, 1), frac(666666, 1000000), frac(0, 1), frac(api.MaxPart, 1), frac(-1, 1), frac(-api.MaxPart, 1), frac(-1, api.MaxPart), frac(-2, 3)} {
		wantNoOrbit(t, fmt.Sprint(x), l, x, 1, 1, api.ErrNone)
		wantNoOrbit(t, fmt.Sprint(x), l, x, 200, 200, api.ErrNone)
	}
	leaving := one(frac(2, 1), frac(1, 1), frac(2, 1))
	orbitOf(t, leaving, frac(3, 2), 5, 1)
	wantNoOrbit(t, "the second number is in no piece", leaving, frac(3, 2), 5, 2, api.ErrNone)
}

func TestOrbitSizes(t *testing.T) {
	l := bounce()
	for _, side := range [][2]int{{1, 1}, {1, api.MaxCells}, {api.MaxCells, 1}, {200, 200}, {7, 5714}} {
		if p := orbitOf(t, l, frac(700, 999), side[0], side[1]); !tile.Fits(tilesOf(t, l), p) {
			t.Errorf("%v: not a pattern", side)
		}
	}
	for _, side := range [][2]int{{1, api.MaxCells + 1}, {api.MaxCells + 1, 1}, {200, 201}, {201, 200}, {7, 5715}, {1, greatest}, {greatest, 1}, {greatest, greatest}, {1 << 32, 1 << 32}, {1 << 62, 4}, {4, 1 << 62}} {
		for _, x := range []api.Frac{frac(1, 1), frac(-1, 1)} {
			wantNoOrbit(t, fmt.Sprint(side), l, x, side[0], side[1], api.ErrSize)
		}
	}
	for _, side := range [][2]int{{0, 1}, {1, 0}, {0, 0}, {-1, -1}, {-1, 1}, {1, -1}, {least, 1}, {1, least}, {least, least}, {0, greatest}, {greatest, 0}, {-1, greatest}} {
		for _, x := range []api.Frac{frac(1, 1), frac(-1, 1)} {
			wantNoOrbit(t, fmt.Sprint(side), l, x, side[0], side[1], api.ErrArg)
		}
	}
}

func TestOrbitOfInvalid(t *testing.T) {
	for _, x := range []api.Frac{{}, frac(1, 0), frac(1, -1), frac(-1, -1), frac(0, 0), frac(1, api.MaxPart+1), frac(api.MaxPart+1, 1), frac(-api.MaxPart-1, 1), frac(api.MaxPart+1, api.MaxPart), frac(least, 1), frac(greatest, greatest), frac(1, least), frac(least, -1)} {
		for _, side := range []int{1, 0, greatest} {
			wantNoOrbit(t, fmt.Sprint(x), kari(), x, side, side, api.ErrForm)
		}
	}
	orbitOf(t, kari(), frac(api.MaxPart, api.MaxPart), 3, 3)
}

// P7.1: an orbit is a pattern of the tiles of the system. The sides to the south are the digits of its numbers, and those to the north the digits of the next ones.
func TestRowsAreDigits(t *testing.T) {
	next := numbers()
	for _, l := range systems(t) {
		set := tilesOf(t, l)
		for _, x := range mixedNumbers(l, next, 7) {
			rows, e := follow(l, x, 25)
			height := len(rows) - 1
			if height < 1 {
				t.Fatalf("%v, %v: error %d", l, x, e)
			}
			p := orbitOf(t, l, x, 40, height)
			if !tile.Fits(set, p) {
				t.Fatalf("%v, %v: not a pattern", l, x)
			}
			for y := range height {
				for c := range 40 {
					if got := set[p.Cells[y*40+c]]; got.S != digit(c, rows[y]) || got.N != digit(c, rows[y+1]) {
						t.Fatalf("%v, %v, row %d, column %d: %v", l, x, y, c, got)
					}
				}
			}
		}
	}
}

// P7.4: the sum of the first c digits of a number is the integer part of c times it.
func TestSums(t *testing.T) {
	next := numbers()
	for _, l := range systems(t) {
		set := tilesOf(t, l)
		for _, x := range mixedNumbers(l, next, 7) {
			total := 0
			for c, i := range orbitOf(t, l, x, 300, 1).Cells {
				total += set[i].S
				if total != (c+1)*x.Num/x.Den {
					t.Fatalf("%v, %v: the first %d digits make %d", l, x, c+1, total)
				}
			}
		}
	}
}

// P7.3: in a closed system there are patterns of every size.
func TestEverySize(t *testing.T) {
	for _, l := range closedSystems() {
		set := tilesOf(t, l)
		for _, size := range [][2]int{{1, 1}, {1, 15}, {2000, 1}, {2500, 16}} {
			if p := orbitOf(t, l, frac(1, 1), size[0], size[1]); !tile.Fits(set, p) {
				t.Errorf("%v, %v: not a pattern", l, size)
			}
		}
	}
	if p, e := beatty.Orbit(bounce(), frac(1, 2), 1, api.MaxCells); e != api.OK || !tile.Fits(tilesOf(t, bounce()), p) {
		t.Errorf("error %d", e)
	}
}
