package beatty_test

import (
	"fmt"
	"slices"
	"testing"

	"groutwork/api"
	"groutwork/beatty"
	"groutwork/torus"
	"groutwork/weight"
)

// factors returns a system with the given factors; whatever the ends are, the logs depend on these alone.
func factors(list ...api.Frac) []api.Piece {
	var l []api.Piece
	for _, f := range list {
		l = append(l, piece(f, frac(1, 2), frac(1, 1)))
	}
	return l
}

func TestLogs(t *testing.T) {
	for _, c := range []struct {
		l            []api.Piece
		primes, logs []int
	}{
		{kari(), []int{2, 3}, []int{1, -3}},
		{culik(), []int{2, 3}, []int{-3, 1}},
		{one(frac(2, 1), frac(1, 2), frac(1, 1)), []int{2}, []int{1}},
		{factors(frac(1, 2)), []int{2}, []int{-3}},
		{factors(frac(8, 1)), []int{2}, []int{1}},
		{factors(frac(12, 1)), []int{2, 3}, []int{-1, 3}},
		{factors(frac(4, 9)), []int{2, 3}, []int{-2, -3}},
		{factors(frac(10, 7)), []int{2, 5, 7}, []int{-3, 1, -3}},
		{factors(frac(11, 7)), []int{7, 11}, []int{-3, -2}},
		{factors(frac(4, 3), frac(3, 2)), []int{2, 3}, []int{2, 3}},
		{factors(frac(2, 1), frac(3, 1), frac(5, 1), frac(7, 1), frac(11, 1)), []int{2, 3, 5, 7, 11}, []int{1, 1, 1, 1, 1}},
		{factors(frac(1, 2), frac(1, 3), frac(1, 5), frac(1, 7), frac(1, 11)), []int{2, 3, 5, 7, 11}, []int{-3, -3, -3, -3, -3}},
	} {
		w, e := beatty.Weigh(c.l)
		if e != api.OK || !slices.Equal(w.Primes, c.primes) || !slices.Equal(w.Logs, c.logs) {
			t.Errorf("%v: %v, %v, error %d, want %v, %v", c.l, w.Primes, w.Logs, e, c.primes, c.logs)
		}
	}
}

func TestNoLogs(t *testing.T) {
	for _, l := range [][]api.Piece{
		one(frac(1, 1), frac(1, 1), frac(2, 1)),
		factors(frac(1, 1), frac(1, 1)),
		factors(frac(2, 1), frac(1, 1)),
		bounce(),
		factors(frac(4, 1), frac(1, 2)),
		factors(frac(3, 2), frac(2, 3)),
		factors(frac(6, 1), frac(1, 2), frac(1, 3)),
		factors(frac(2, 3), frac(3, 5), frac(5, 7), frac(7, 11), frac(11, 2)),
		// With logs up to 4 there would be 3, 4 for these.
		factors(frac(8, 9), frac(3, 2)),
	} {
		wantNoWeights(t, fmt.Sprint(l), l, api.ErrNone)
		tilesOf(t, l)
	}
	// ErrSize comes first.
	wantNoWeights(t, "too many tiles", append(tooMany(), bounce()...), api.ErrSize)
}

func TestWeigh(t *testing.T) {
	w, e := beatty.Weigh(one(frac(2, 1), frac(1, 2), frac(1, 1)))
	want := api.Weights{
		Values:  []api.Frac{frac(0, 1), frac(1, 1), frac(2, 1)},
		Carries: []api.Frac{frac(-1, 1), frac(0, 1)},
		Factors: []api.Frac{frac(2, 1), frac(2, 1), frac(2, 1), frac(2, 1)},
		Primes:  []int{2},
		Logs:    []int{1},
	}
	if e != api.OK || !sameWeights(w, want) {
		t.Errorf("%v, error %d, want %v", w, e, want)
	}
	w, e = beatty.Weigh(kari())
	want = api.Weights{
		Values:  []api.Frac{frac(0, 1), frac(1, 1), frac(2, 1)},
		Carries: []api.Frac{frac(-1, 1), frac(0, 1), frac(-1, 3), frac(0, 1), frac(1, 3), frac(2, 3)},
		Factors: append(slices.Repeat([]api.Frac{frac(2, 1)}, 4), slices.Repeat([]api.Frac{frac(2, 3)}, 10)...),
		Primes:  []int{2, 3},
		Logs:    []int{1, -3},
	}
	if e != api.OK || !sameWeights(w, want) {
		t.Errorf("%v, error %d, want %v", w, e, want)
	}
}

func sameWeights(v, w api.Weights) bool {
	return slices.Equal(v.Values, w.Values) && slices.Equal(v.Carries, w.Carries) && slices.Equal(v.Factors, w.Factors) &&
		slices.Equal(v.Primes, w.Primes) && slices.Equal(v.Logs, w.Logs)
}

// slowWeights returns weights by their definition, with or without logs.
func slowWeights(l []api.Piece) (api.Weights, bool) {
	var w api.Weights
	set, carries := coloured(l)
	most := 0
	for i, made := range allMade(l) {
		w.Factors = append(w.Factors, l[made.piece].Factor)
		most = max(most, set[i].N, set[i].S)
	}
	for colour := range most + 1 {
		w.Values = append(w.Values, frac(colour, 1))
	}
	for _, c := range carries {
		w.Carries = append(w.Carries, frac(int(c.Num().Int64()), int(c.Denom().Int64())))
	}
	var ok bool
	w.Primes, w.Logs, ok = growth(l)
	return w, ok
}

func TestWeighLikeReference(t *testing.T) {
	found := map[bool]int{}
	for _, l := range slices.Concat(systems(t), mixedSystems(100, 12, 2, 1)) {
		if _, e := beatty.Tiles(l); e == api.ErrSize {
			wantNoWeights(t, fmt.Sprint(l), l, api.ErrSize)
			continue
		}
		want, ok := slowWeights(l)
		found[ok]++
		if !ok {
			wantNoWeights(t, fmt.Sprint(l), l, api.ErrNone)
		} else if w, e := beatty.Weigh(l); e != api.OK || !sameWeights(w, want) {
			t.Errorf("%v: %v, error %d, want %v", l, w, e, want)
		}
	}
	if found[true] < 50 || found[false] < 10 {
		t.Errorf("weights or none: %v", found)
	}
}

// P7.2: the weights are valid, and meet the conditions 1, 2 and 4; the set without the tiles whose S has the value 0 meets all of them.
func TestWeightsHold(t *testing.T) {
	for _, l := range systems(t) {
		w, e := beatty.Weigh(l)
		if e == api.ErrNone {
			continue
		}
		set := tilesOf(t, l)
		if e != api.OK || !weight.Valid(set, w) {
			t.Fatalf("%v: %v, error %d", l, w, e)
		}
		for i, x := range set {
			if !isEven(x, w, i) {
				t.Errorf("%v: %v, %v: condition 1", l, x, w)
			}
			for j, y := range set {
				if x.E == y.W && w.Factors[i] != w.Factors[j] {
					t.Errorf("%v: %v, %v, %v: condition 2", l, x, y, w)
				}
			}
		}
		if part, v := withoutZero(set, w); len(part) > 0 {
			if ok, e := weight.Check(part, v); !ok || e != api.OK {
				t.Errorf("%v: %v, error %d", l, ok, e)
			}
		}
	}
}

// isEven reports whether condition 1 holds for the tile of an index.
func isEven(x api.Tile, w api.Weights, i int) bool {
	in := rational(w.Factors[i])
	in.Mul(in, rational(w.Values[x.S])).Add(in, rational(w.Carries[x.W]))
	out := rational(w.Values[x.N])
	return in.Cmp(out.Add(out, rational(w.Carries[x.E]))) == 0
}

// withoutZero returns the tiles whose S is not 0, and the weights for them.
func withoutZero(set []api.Tile, w api.Weights) ([]api.Tile, api.Weights) {
	var part []api.Tile
	v := api.Weights{Primes: w.Primes, Logs: w.Logs}
	values, carries := 0, 0
	for i, x := range set {
		if x.S != 0 {
			part = append(part, x)
			v.Factors = append(v.Factors, w.Factors[i])
			values, carries = max(values, x.N+1, x.S+1), max(carries, x.E+1, x.W+1)
		}
	}
	v.Values, v.Carries = w.Values[:values], w.Carries[:carries]
	return part, v
}

// P7.2: if the weights are accepted, there is no torus. They are not accepted of systems with the number 0: the tile without digits and carries is a torus.
func TestAcceptedWeights(t *testing.T) {
	found := map[bool]int{}
	for _, l := range systems(t) {
		w, e := beatty.Weigh(l)
		if e != api.OK {
			continue
		}
		set := tilesOf(t, l)
		ok, e := weight.Check(set, w)
		if e != api.OK {
			t.Fatalf("%v: error %d", l, e)
		}
		found[ok]++
		if firstPiece(l, rational(frac(0, 1))) >= 0 && ok {
			t.Errorf("%v is accepted", l)
		}
		if !ok {
			continue
		}
		for width, lists := 1, len(set); width <= api.MaxPeriod && lists <= 5000; width, lists = width+1, lists*len(set) {
			for height := 1; height <= api.MaxPeriod; height++ {
				if p, e := torus.Find(set, width, height); e != api.ErrNone {
					t.Errorf("%v is accepted, but %v, error %d", l, p, e)
				}
			}
		}
	}
	if found[true] < 20 || found[false] < 5 {
		t.Errorf("accepted or not: %v", found)
	}
}

// P7.5: the system of 2 from 2/3 to 1 and 2/3 from 1 to 2 is closed, and has weights that are accepted.
func TestAperiodic(t *testing.T) {
	wantClosed(t, kari(), true)
	set := tilesOf(t, kari())
	w, e := beatty.Weigh(kari())
	if e != api.OK {
		t.Fatalf("error %d", e)
	}
	if ok, e := weight.Check(set, w); !ok || e != api.OK {
		t.Errorf("%v, error %d", ok, e)
	}
	if p, e := torus.Find(set, 3, 6); e != api.ErrNone {
		t.Errorf("%v, error %d", p, e)
	}
}
