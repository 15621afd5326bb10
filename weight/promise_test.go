package weight_test

import (
	"slices"
	"testing"

	"groutwork/api"
	"groutwork/torus"
	"groutwork/weight"
)

// certified is a set with weights that Check accepts.
type certified struct {
	set []api.Tile
	w   api.Weights
}

// accepted returns the certificates that Check accepts: of small sets with small weights, and of sets that multiply.
func accepted(t *testing.T) []certified {
	var all []certified
	next := numbers()
	sets := slices.Concat(mixedSets(100, 1, 2), mixedSets(300, 2, 2), mixedSets(200, 3, 3), mixedSets(100, 4, 4))
	for _, set := range append(sets, nil) {
		for range 200 {
			if w := smallWeights(set, next); check(t, set, w) {
				all = append(all, certified{set, w})
			}
		}
	}
	all = append(all, multiplied()...)
	for _, c := range all {
		if !check(t, c.set, c.w) {
			t.Fatalf("%v, %v: not accepted", c.set, c.w)
		}
	}
	return all
}

// multiplied returns certificates of sets with rows of every length.
func multiplied() []certified {
	thirds := []api.Frac{frac(-1, 3), frac(0, 1), frac(1, 3), frac(2, 3)}
	halves := []api.Frac{frac(-1, 2), frac(0, 2), frac(1, 2)}
	var all []certified
	add := func(set []api.Tile, w api.Weights) { all = append(all, certified{set, w}) }
	add(endless())
	add(multiply([]piece{{frac(2, 1), []int{1, 2}, []int{1, 2, 3, 4}, whole(0, -1)}}, []int{2}, []int{1}))
	add(multiply([]piece{{frac(1, 2), []int{1, 2, 3}, []int{0, 1}, halves}}, []int{2}, []int{-1}))
	add(multiply([]piece{{frac(3, 2), []int{1, 2}, []int{1, 2, 3}, halves}}, []int{2, 3}, []int{-1, 1}))
	add(multiply([]piece{
		{frac(3, 1), []int{0, 1}, []int{1, 2}, whole(0, -1, -2)},
		{frac(1, 2), []int{1, 2}, []int{0, 1}, halves},
	}, []int{3, 2}, []int{1, -1}))
	add(multiply([]piece{
		{frac(4, 6), []int{1, 2}, []int{0, 1}, thirds},
		{frac(10, 6), []int{1}, []int{1, 2}, thirds},
	}, []int{2, 3, 5}, []int{3, 2, 3}))
	return all
}

// mostWidth returns the greatest width of a torus that can be looked for.
func mostWidth(tiles int) int {
	width, lists := 0, 1
	for width < api.MaxPeriod && lists*tiles <= 5000 {
		width++
		lists *= tiles
	}
	return width
}

// P6.1 (P3): sets with accepted weights have no torus.
func TestNoTorus(t *testing.T) {
	for _, c := range accepted(t) {
		for width := 1; width <= mostWidth(len(c.set)); width++ {
			for height := 1; height <= api.MaxPeriod; height++ {
				if p, e := torus.Find(c.set, width, height); e != api.ErrNone {
					t.Fatalf("%v, %v is accepted, but %v, error %d", c.set, c.w, p, e)
				}
			}
		}
	}
}

// P6.1, the other way round: weights of sets with a torus are refused.
func TestTorusIsRefused(t *testing.T) {
	next := numbers()
	fails := map[int]int{}
	for _, set := range slices.Concat(mixedSets(100, 1, 2), mixedSets(200, 2, 2), mixedSets(200, 3, 2), mixedSets(200, 4, 2)) {
		p, e := torus.Least(set, 4)
		if e != api.OK {
			continue
		}
		for range 100 {
			w := smallWeights(set, next)
			if check(t, set, w) {
				t.Fatalf("%v, %v is accepted, but %v", set, w, p)
			}
			fails[failing(set, w)]++
		}
	}
	for _, fail := range []int{1, 4, 8} {
		if fails[fail] < 20 {
			t.Errorf("conditions %04b fail only %d times", fail, fails[fail])
		}
	}
}

// Without each one of the conditions, a set with a torus would be accepted.
func TestConditionsAreNeeded(t *testing.T) {
	for _, c := range []struct {
		fail int
		set  string
		w    api.Weights
	}{
		{1, "1.0.1.0", api.Weights{Values: whole(0, 1), Carries: whole(0), Factors: whole(2)}},
		{1, "1.0.1.0", api.Weights{Values: whole(1, 1), Carries: whole(-1), Factors: whole(2)}},
		// The first tile puts 1 into the row, as 2 * 1 = 1 + 1; the second one takes it out, as 2/3 * 3 + 1 = 3.
		{2, "0.1.0.0 1.0.1.1", api.Weights{Values: whole(1, 3), Carries: whole(0, 1), Factors: []api.Frac{frac(2, 1), frac(2, 3)}}},
		{4, "1.0.1.0", api.Weights{Values: whole(5, 0), Carries: whole(3), Factors: whole(2)}},
		{8, "1.0.1.0", api.Weights{Values: whole(0, 1), Carries: whole(3), Factors: whole(1)}},
		// What is multiplied by 2 is halved by the next row.
		{8, "2.0.1.0 1.1.2.1", api.Weights{Values: whole(0, 1, 2), Carries: whole(0, 0), Factors: []api.Frac{frac(2, 1), frac(1, 2)}}},
	} {
		set := parse(t, c.set)
		c.w.Primes, c.w.Logs = []int{2, 3}, []int{2, 1}
		if fail := failing(set, c.w); fail != c.fail {
			t.Errorf("%s: conditions %04b fail, want %04b", c.set, fail, c.fail)
		}
		if check(t, set, c.w) {
			t.Errorf("%s, %v is accepted", c.set, c.w)
		}
		if _, e := torus.Least(set, 3); e != api.OK {
			t.Errorf("%s: no torus, error %d", c.set, e)
		}
	}
}

// loops returns rows of up to n tiles that lead from a colour back to the same one.
func loops(set []api.Tile, n int) [][]int {
	var all [][]int
	rows := [][]int{}
	for i := range set {
		rows = append(rows, []int{i})
	}
	for range n {
		var longer [][]int
		for _, row := range rows {
			end := set[row[len(row)-1]].E
			if end == set[row[0]].W {
				all = append(all, row)
			}
			for i, t := range set {
				if t.W == end {
					longer = append(longer, append(slices.Clone(row), i))
				}
			}
		}
		rows = longer
	}
	return all
}

// P6.2: in a row that leads back, the values are multiplied, and are not 0.
func TestRowsMultiply(t *testing.T) {
	found := 0
	for _, c := range accepted(t) {
		for _, row := range loops(c.set, 5) {
			south, north, e := weight.Row(c.set, c.w, row)
			if e != api.OK || south.Num <= 0 || product(south, c.w.Factors[row[0]]).Cmp(rational(north)) != 0 {
				t.Fatalf("%v, %v, %v: %v, %v, error %d", c.set, c.w, row, south, north, e)
			}
			found++
		}
	}
	if found < 1000 {
		t.Errorf("only %d rows", found)
	}
}

// Whatever the row, its ends make up the difference.
func TestRowsAndCarries(t *testing.T) {
	next := numbers()
	for _, c := range accepted(t) {
		if len(c.set) == 0 {
			continue
		}
		row := walk(c.set, next, 20)
		south, north, e := weight.Row(c.set, c.w, row)
		if e != api.OK {
			t.Fatalf("%v, %v, %v: error %d", c.set, c.w, row, e)
		}
		in := plus(product(south, c.w.Factors[row[0]]), c.w.Carries[c.set[row[0]].W])
		out := plus(rational(north), c.w.Carries[c.set[row[len(row)-1]].E])
		if in.Cmp(out) != 0 {
			t.Fatalf("%v, %v, %v: %v, %v", c.set, c.w, row, south, north)
		}
	}
}

// without returns a set without one of its tiles, with Values and Carries as long as they have to be.
func without(c certified, i int) certified {
	set := slices.Delete(slices.Clone(c.set), i, i+1)
	w := copyWeights(c.w)
	w.Factors = slices.Delete(w.Factors, i, i+1)
	exact := sized(set, nothing, nothing, nothing)
	w.Values = w.Values[:len(exact.Values)]
	w.Carries = w.Carries[:len(exact.Carries)]
	return certified{set, w}
}

// P6.3: the weights also exclude all periods of a part, down to the empty set.
func TestParts(t *testing.T) {
	for _, c := range accepted(t) {
		for i := range c.set {
			if part := without(c, i); !check(t, part.set, part.w) {
				t.Fatalf("%v, %v is accepted, but not %v, %v", c.set, c.w, part.set, part.w)
			}
		}
		for len(c.set) > 0 {
			c = without(c, len(c.set)/2)
			if !check(t, c.set, c.w) {
				t.Fatalf("%v, %v is not accepted", c.set, c.w)
			}
		}
	}
}

// The order of the tiles, and that of the primes, do not matter; nor does it what fractions are divided by.
func TestOrder(t *testing.T) {
	for _, c := range accepted(t) {
		w := copyWeights(c.w)
		set := slices.Clone(c.set)
		slices.Reverse(set)
		slices.Reverse(w.Factors)
		slices.Reverse(w.Primes)
		slices.Reverse(w.Logs)
		for _, list := range [][]api.Frac{w.Values, w.Carries, w.Factors} {
			for i, f := range list {
				list[i] = frac(f.Num*(i+3), f.Den*(i+3))
			}
		}
		if !check(t, set, w) {
			t.Fatalf("%v, %v is accepted, but not %v, %v", c.set, c.w, set, w)
		}
	}
}
