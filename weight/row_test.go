package weight_test

import (
	"fmt"
	"slices"
	"testing"

	"groutwork/api"
	"groutwork/weight"
)

func TestRowExample(t *testing.T) {
	set, w := twice(t)
	wantRow(t, "one", set, w, []int{0}, frac(1, 1), frac(2, 1))
	wantRow(t, "three", set, w, []int{0, 0, 0}, frac(3, 1), frac(6, 1))
	wantRow(t, "40000", set, w, make([]int, api.MaxCells), frac(40000, 1), frac(80000, 1))
	w.Values = []api.Frac{frac(0, 1), frac(1, 6), frac(0, 9)}
	for n, want := range []api.Frac{{}, frac(1, 6), frac(1, 3), frac(1, 2), frac(2, 3), frac(5, 6), frac(1, 1), frac(7, 6)} {
		if n > 0 {
			wantRow(t, fmt.Sprint(n), set, w, make([]int, n), want, frac(0, 1))
		}
	}
}

// Whether weights exclude periods does not matter, nor whether the ends of the row agree.
func TestRowOfAnyWeights(t *testing.T) {
	set := parse(t, "1.1.0.0 2.2.1.1 0.3.2.2")
	w := api.Weights{Values: []api.Frac{frac(2, 4), frac(6, 9), frac(30, 20)}, Carries: whole(5, -4, 3, 2), Factors: whole(1, 1, 1)}
	wantRow(t, "0", set, w, []int{0}, frac(1, 2), frac(2, 3))
	wantRow(t, "0 1", set, w, []int{0, 1}, frac(7, 6), frac(13, 6))
	wantRow(t, "1 2", set, w, []int{1, 2}, frac(13, 6), frac(2, 1))
	wantRow(t, "0 1 2", set, w, []int{0, 1, 2}, frac(8, 3), frac(8, 3))
}

func TestRowRefuses(t *testing.T) {
	set := parse(t, "1.1.0.0 0.0.1.1 1.2.1.2")
	w := sized(set, func() api.Frac { return frac(1, 2) }, func() api.Frac { return frac(0, 1) }, func() api.Frac { return frac(1, 1) })
	for what, row := range map[string][]int{
		"nil":                 nil,
		"empty":               {},
		"negative":            {-1},
		"negative, later":     {0, 1, -1},
		"too great":           {3},
		"too great, later":    {0, 1, 3},
		"greatest int":        {greatest},
		"least int":           {least},
		"no neighbours":       {0, 0},
		"other way round":     {2, 0},
		"no neighbours, last": {0, 1, 0, 1, 1},
		"no neighbours, 2":    {0, 1, 2},
		"one too many":        slices.Repeat([]int{2}, api.MaxCells+1),
		"wrong last":          append(slices.Repeat([]int{2}, api.MaxCells-1), 0),
	} {
		wantNoRow(t, what, set, w, row, api.ErrArg)
	}
	wantRow(t, "fits", set, w, []int{0, 1, 0, 1}, frac(2, 1), frac(2, 1))
	wantRow(t, "MaxCells", set, w, slices.Repeat([]int{2}, api.MaxCells), frac(20000, 1), frac(20000, 1))
	wantNoRow(t, "tile 0 of the empty set", nil, api.Weights{}, []int{0}, api.ErrArg)
	wantNoRow(t, "no tile of the empty set", nil, api.Weights{}, nil, api.ErrArg)
}

// Sums up to MaxPart, and greater ones.
func TestGreatSums(t *testing.T) {
	set := parse(t, "1.0.0.0 0.1.1.1")
	for _, c := range []struct {
		south, north api.Frac
		n            int
		wantS, wantN api.Frac // zero: ErrSize
	}{
		{frac(api.MaxPart, 1), frac(0, 1), 1, frac(api.MaxPart, 1), frac(0, 1)},
		{frac(api.MaxPart, 1), frac(0, 1), 2, api.Frac{}, api.Frac{}},
		{frac(0, 1), frac(api.MaxPart, 1), 1, frac(0, 1), frac(api.MaxPart, 1)},
		{frac(0, 1), frac(api.MaxPart, 1), 2, api.Frac{}, api.Frac{}},
		{frac(25, 1), frac(1, 40000), api.MaxCells, frac(api.MaxPart, 1), frac(1, 1)},
		{frac(51, 2), frac(1, 1), api.MaxCells, api.Frac{}, api.Frac{}},
		{frac(1, 1), frac(26, 1), api.MaxCells, api.Frac{}, api.Frac{}},
		{frac(api.MaxPart, 1), frac(api.MaxPart, 1), api.MaxCells, api.Frac{}, api.Frac{}},
		// The numerator is too great although the sum is small, but only in lowest terms.
		{frac(500001, 7), frac(1, 1), 1, frac(500001, 7), frac(1, 1)},
		{frac(500001, 7), frac(1, 1), 2, api.Frac{}, api.Frac{}},
		{frac(500001, 7), frac(1, 1), 7, frac(500001, 1), frac(7, 1)},
		{frac(500001, 7), frac(1, 1), 6, api.Frac{}, api.Frac{}},
		{frac(1, 1), frac(500001, 7), 6, api.Frac{}, api.Frac{}},
		{frac(999999, 1000000), frac(1, api.MaxPart), 1, frac(999999, 1000000), frac(1, 1000000)},
		{frac(999999, 1000000), frac(1, api.MaxPart), 2, frac(999999, 500000), frac(1, 500000)},
		{frac(1, 1), frac(999999, 1000000), 3, api.Frac{}, api.Frac{}},
		{frac(2, 1), frac(999999, 1000000), 40000, frac(80000, 1), frac(999999, 25)},
		{frac(500000, 1000000), frac(999983, 999983), 3, frac(3, 2), frac(3, 1)},
	} {
		w := api.Weights{Values: []api.Frac{c.south, c.north}, Carries: whole(0, 0), Factors: whole(1, 1)}
		what := fmt.Sprint(c.n, " times ", c.south, c.north)
		if c.wantS == (api.Frac{}) {
			wantNoRow(t, what, set, w, make([]int, c.n), api.ErrSize)
		} else {
			wantRow(t, what, set, w, make([]int, c.n), c.wantS, c.wantN)
		}
	}
}

// Denominators whose least common multiple is up to MaxPart, and more than that.
func TestGreatDenominators(t *testing.T) {
	set := parse(t, "0.0.0.0 0.0.1.0 1.0.0.0 2.0.3.0")
	for _, c := range []struct {
		values       []api.Frac
		row          []int
		wantS, wantN api.Frac // zero: ErrSize
	}{
		// 64 times 15625 is MaxPart.
		{[]api.Frac{frac(1, 64), frac(1, 15625), frac(0, 1), frac(0, 1)}, []int{0, 1}, frac(15689, 1000000), frac(1, 32)},
		{[]api.Frac{frac(1, 1000), frac(1, 999), frac(0, 1), frac(0, 1)}, []int{0, 1}, frac(1999, 999000), frac(1, 500)},
		{[]api.Frac{frac(1, 1001), frac(1, 1000), frac(0, 1), frac(0, 1)}, []int{0, 1}, api.Frac{}, api.Frac{}},
		{[]api.Frac{frac(1, 1001), frac(1, 1000), frac(0, 1), frac(0, 1)}, []int{0, 2}, api.Frac{}, api.Frac{}},
		// The denominators in lowest terms matter.
		{[]api.Frac{frac(3, 3*1001), frac(1000, 1000), frac(0, 1), frac(0, 1)}, []int{0, 1}, frac(1002, 1001), frac(2, 1001)},
		{[]api.Frac{frac(0, 1000), frac(1, 999999), frac(0, 1), frac(0, 1)}, []int{0, 1, 2}, frac(1, 999999), frac(1, 999999)},
		// Those of other values of the set do not.
		{[]api.Frac{frac(1, 2), frac(1, 3), frac(1, 999983), frac(1, 999979)}, []int{0, 1, 2}, frac(4, 3), frac(4, 3)},
		{[]api.Frac{frac(1, 2), frac(1, 3), frac(1, 999983), frac(1, 999979)}, []int{3}, frac(1, 999979), frac(1, 999983)},
		{[]api.Frac{frac(1, 2), frac(1, 3), frac(1, 999983), frac(1, 999979)}, []int{3, 3}, frac(2, 999979), frac(2, 999983)},
		{[]api.Frac{frac(1, 2), frac(1, 3), frac(1, 999983), frac(1, 999979)}, []int{3, 2}, api.Frac{}, api.Frac{}},
		{[]api.Frac{frac(1, 2), frac(1, 3), frac(1, 999983), frac(1, 999979)}, []int{1, 3}, api.Frac{}, api.Frac{}},
		{[]api.Frac{frac(999979, 999983), frac(1, 2), frac(0, 1), frac(0, 1)}, []int{2, 1}, api.Frac{}, api.Frac{}},
	} {
		w := api.Weights{Values: c.values, Carries: whole(0), Factors: whole(1, 1, 1, 1)}
		for _, row := range [][]int{c.row, reversed(c.row)} {
			what := fmt.Sprint(row, " of ", c.values)
			if c.wantS == (api.Frac{}) {
				wantNoRow(t, what, set, w, row, api.ErrSize)
			} else {
				wantRow(t, what, set, w, row, c.wantS, c.wantN)
			}
		}
	}
}

// The sums are 2, but the denominators on the way are too great.
func TestGreatDenominatorsOfSmallSum(t *testing.T) {
	set := parse(t, "0.0.0.0 1.0.1.0")
	w := api.Weights{Values: []api.Frac{frac(1, 1009), frac(1, 2003)}, Carries: whole(0), Factors: whole(2, 2)}
	row := slices.Concat(slices.Repeat([]int{0}, 1009), slices.Repeat([]int{1}, 2003))
	wantNoRow(t, "both", set, w, row, api.ErrSize)
	wantRow(t, "one", set, w, row[:1009], frac(1, 1), frac(1, 1))
	wantRow(t, "the other one", set, w, row[1009:], frac(1, 1), frac(1, 1))
}

// Many denominators: even their product does not overflow.
func TestManyDenominators(t *testing.T) {
	var set []api.Tile
	var values []api.Frac
	for i := range api.MaxTiles {
		set = append(set, api.Tile{N: i, S: i})
		values = append(values, frac(1, 1000*i+1))
	}
	w := api.Weights{Values: values, Carries: whole(0), Factors: times(len(set), frac(1, 1))}
	var row []int
	for i := range set {
		row = append(row, i)
		if i > 1 {
			wantNoRow(t, fmt.Sprint(i+1, " tiles"), set, w, row, api.ErrSize)
		}
	}
}

func reversed(l []int) []int {
	r := slices.Clone(l)
	slices.Reverse(r)
	return r
}

// Rows against sums of numbers of any length. ErrSize has a reason: a sum, or the denominators of the values.
func TestRowAgainstDefinition(t *testing.T) {
	next := numbers()
	seen := map[api.Errno]int{}
	for _, set := range slices.Concat(mixedSets(100, 4, 3), mixedSets(100, 12, 5), mixedSets(50, 40, 6)) {
		for range 30 {
			nums, dens := []int{3, 50, 100000, api.MaxPart}[next(4)], []int{1, 6, 12, 30, 2000, api.MaxPart}[next(6)]
			w := sized(set, func() api.Frac { return frac(next(nums+1), 1+next(dens)) }, func() api.Frac { return frac(1, 2) }, func() api.Frac { return frac(2, 1) })
			row := walk(set, next, 1+next(12))
			south, north := sums(set, w, row)
			s, okS := asFrac(south)
			n, okN := asFrac(north)
			gotS, gotN, e := weight.Row(set, w, row)
			seen[e]++
			switch {
			case okS && okN && e == api.OK && gotS == s && gotN == n:
			case okS && okN && isFine(w), e != api.ErrSize, gotS != api.Frac{}, gotN != api.Frac{}:
				t.Fatalf("%v, %v, %v: %v, %v, error %d, want %v, %v", set, w, row, gotS, gotN, e, south, north)
			}
		}
	}
	if seen[api.OK] < 1000 || seen[api.ErrSize] < 500 {
		t.Errorf("errors: %v", seen)
	}
}

// walk returns a row of up to n tiles.
func walk(set []api.Tile, next func(int) int, n int) []int {
	row := []int{next(len(set))}
	for len(row) < n {
		var after []int
		for i, t := range set {
			if t.W == set[row[len(row)-1]].E {
				after = append(after, i)
			}
		}
		if after == nil {
			break
		}
		row = append(row, after[next(len(after))])
	}
	return row
}
