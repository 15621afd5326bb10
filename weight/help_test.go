package weight_test

import (
	"slices"
	"testing"

	"groutwork/api"
	"groutwork/tile"
	"groutwork/weight"
)

const (
	least, greatest = -1 << 63, 1<<63 - 1
	// greatPrime is the greatest prime up to MaxPart.
	greatPrime = 999983
)

// parse returns the set of a text that has to be accepted.
func parse(t *testing.T, s string) []api.Tile {
	t.Helper()
	set, e := tile.Parse(s)
	if e != api.OK {
		t.Fatalf("Parse(%q): error %d", s, e)
	}
	return set
}

func frac(num, den int) api.Frac { return api.Frac{Num: num, Den: den} }

// nothing and one are for sized.

func nothing() api.Frac { return frac(0, 1) }

func one() api.Frac { return frac(1, 1) }

// whole returns fractions of integers.
func whole(numbers ...int) []api.Frac {
	var l []api.Frac
	for _, n := range numbers {
		l = append(l, frac(n, 1))
	}
	return l
}

// times returns a list of n equal fractions.
func times(n int, f api.Frac) []api.Frac { return slices.Repeat([]api.Frac{f}, n) }

func copyWeights(w api.Weights) api.Weights {
	return api.Weights{
		Values:  slices.Clone(w.Values),
		Carries: slices.Clone(w.Carries),
		Factors: slices.Clone(w.Factors),
		Primes:  slices.Clone(w.Primes),
		Logs:    slices.Clone(w.Logs),
	}
}

func sameWeights(v, w api.Weights) bool {
	return slices.Equal(v.Values, w.Values) && slices.Equal(v.Carries, w.Carries) && slices.Equal(v.Factors, w.Factors) &&
		slices.Equal(v.Primes, w.Primes) && slices.Equal(v.Logs, w.Logs)
}

// twice is the set of example 1 of the chapter, with its weights.
func twice(t *testing.T) ([]api.Tile, api.Weights) {
	return parse(t, "2.0.1.0"), api.Weights{Values: whole(0, 1, 2), Carries: whole(0), Factors: whole(2), Primes: []int{2}, Logs: []int{1}}
}

// piece is a factor with the colours to the south and to the north, whose values are the colours, and the carries of its tiles.
type piece struct {
	factor         api.Frac
	souths, norths []int
	carries        []api.Frac
}

// multiply returns all tiles of pieces for which condition 1 holds, and weights for them. Each carry of each piece has a colour of its own.
func multiply(pieces []piece, primes, logs []int) ([]api.Tile, api.Weights) {
	var set []api.Tile
	w := api.Weights{Primes: primes, Logs: logs}
	most := 0
	for _, p := range pieces {
		first := len(w.Carries)
		w.Carries = append(w.Carries, p.carries...)
		for _, s := range p.souths {
			for _, n := range p.norths {
				for west, from := range p.carries {
					for east, to := range p.carries {
						in := plus(product(p.factor, frac(s, 1)), from)
						if in.Cmp(plus(rational(frac(n, 1)), to)) == 0 {
							set = append(set, api.Tile{N: n, E: first + east, S: s, W: first + west})
							w.Factors = append(w.Factors, p.factor)
							most = max(most, n, s)
						}
					}
				}
			}
		}
	}
	for n := range most + 1 {
		w.Values = append(w.Values, frac(n, 1))
	}
	return set, w
}

// endless returns a set with patterns of every size, and weights for it: its rows multiply numbers from 2/3 to 1 by 2, and those from 1 to 2 by 2/3.
func endless() ([]api.Tile, api.Weights) {
	return multiply([]piece{
		{frac(2, 1), []int{0, 1}, []int{1, 2}, whole(0, -1)},
		{frac(2, 3), []int{1, 2}, []int{0, 1, 2}, []api.Frac{frac(0, 1), frac(2, 3), frac(-1, 3), frac(1, 3)}},
	}, []int{2, 3}, []int{2, 1})
}

// numbers returns a function whose results differ as much as a simple rule makes them: each is from 0 to its argument - 1.
func numbers() func(int) int {
	state := uint64(1)
	return func(below int) int {
		state = state*6364136223846793005 + 1442695040888963407
		return int(state>>33) % below
	}
}

// mixedSets returns sets of n tiles with colours from 0 to colours - 1.
func mixedSets(sets, n, colours int) [][]api.Tile {
	next := numbers()
	var all [][]api.Tile
	for range sets {
		var set []api.Tile
		for len(set) < n {
			if t := (api.Tile{N: next(colours), E: next(colours), S: next(colours), W: next(colours)}); !slices.Contains(set, t) {
				set = append(set, t)
			}
		}
		all = append(all, set)
	}
	return all
}

// sized returns weights of the lengths that the set asks for, filled with the numbers of a function.
func sized(set []api.Tile, value, carry, factor func() api.Frac) api.Weights {
	values, carries := 0, 0
	for _, t := range set {
		values = max(values, t.N+1, t.S+1)
		carries = max(carries, t.E+1, t.W+1)
	}
	var w api.Weights
	for range values {
		w.Values = append(w.Values, value())
	}
	for range carries {
		w.Carries = append(w.Carries, carry())
	}
	for range set {
		w.Factors = append(w.Factors, factor())
	}
	return w
}

// longRow returns n tiles each of which has only the next one to its east, with N and S of 0.
func longRow(n int) []api.Tile {
	var set []api.Tile
	for i := range n {
		set = append(set, api.Tile{E: (i + 1) % api.MaxColours, W: i})
	}
	return set
}

// check returns the result of Check, which has to be OK.
func check(t *testing.T, set []api.Tile, w api.Weights) bool {
	t.Helper()
	is, e := weight.Check(set, w)
	if e != api.OK {
		t.Fatalf("Check of %v, %v: error %d", set, w, e)
	}
	return is
}

// wantCheck checks the result of Check, also against the definition.
func wantCheck(t *testing.T, what string, set []api.Tile, w api.Weights, want bool) {
	t.Helper()
	if slow := failing(set, w) == 0; slow != want {
		t.Errorf("%s: the tests do not agree: conditions %b fail", what, failing(set, w))
	}
	if got := check(t, set, w); got != want {
		t.Errorf("%s: %v, want %v", what, got, want)
	}
}

// wantRow checks the sums of Row.
func wantRow(t *testing.T, what string, set []api.Tile, w api.Weights, row []int, south, north api.Frac) {
	t.Helper()
	s, n, e := weight.Row(set, w, row)
	if e != api.OK || s != south || n != north {
		t.Errorf("Row, %s: %v, %v, error %d, want %v, %v", what, s, n, e, south, north)
	}
}

// wantNoRow checks an error of Row and that the sums with it are zero values.
func wantNoRow(t *testing.T, what string, set []api.Tile, w api.Weights, row []int, want api.Errno) {
	t.Helper()
	s, n, e := weight.Row(set, w, row)
	if e != want || s != (api.Frac{}) || n != (api.Frac{}) {
		t.Errorf("Row, %s: %v, %v, error %d, want %d", what, s, n, e, want)
	}
}

// wantInvalid checks that weights are not valid for a set, for all functions.
func wantInvalid(t *testing.T, what string, set []api.Tile, w api.Weights) {
	t.Helper()
	if weight.Valid(set, w) {
		t.Errorf("%s: valid", what)
	}
	if is, e := weight.Check(set, w); is || e != api.ErrForm {
		t.Errorf("Check, %s: %v, error %d", what, is, e)
	}
	for _, row := range [][]int{nil, {0}, {-1}, {len(set)}, make([]int, api.MaxCells+1)} {
		wantNoRow(t, what, set, w, row, api.ErrForm)
	}
}
