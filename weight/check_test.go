package weight_test

import (
	"fmt"
	"slices"
	"testing"

	"groutwork/api"
	"groutwork/weight"
)

// Example 1 of the chapter, and what spoils it.
func TestCheckExample(t *testing.T) {
	set, w := twice(t)
	wantCheck(t, "example 1", set, w, true)
	for what, change := range map[string]func(*api.Weights){
		"1: value":        func(w *api.Weights) { w.Values[2] = frac(3, 1) },
		"1: factor":       func(w *api.Weights) { w.Factors[0] = frac(4, 1) },
		"3: no values":    func(w *api.Weights) { w.Values = whole(0, 0, 0) },
		"4: other prime":  func(w *api.Weights) { w.Primes[0] = 3 },
		"4: no primes":    func(w *api.Weights) { w.Primes, w.Logs = nil, nil },
		"4: log 0":        func(w *api.Weights) { w.Logs[0] = 0 },
		"4: negative log": func(w *api.Weights) { w.Logs[0] = -1 },
	} {
		v := copyWeights(w)
		change(&v)
		wantCheck(t, what, set, v, false)
	}
	for what, change := range map[string]func(*api.Weights){
		"unused value":        func(w *api.Weights) { w.Values[0] = frac(7, 3) },
		"carry":               func(w *api.Weights) { w.Carries[0] = frac(-5, 7) },
		"greater values":      func(w *api.Weights) { w.Values = whole(0, 500000, 1000000) },
		"more primes":         func(w *api.Weights) { w.Primes, w.Logs = []int{3, 2, 5}, []int{-1000, 1, 1000} },
		"not in lowest terms": func(w *api.Weights) { w.Values[1], w.Values[2] = frac(3, 3), frac(14, 7) },
		"factor 6/3":          func(w *api.Weights) { w.Factors[0] = frac(6, 3) },
		"factor 20/10":        func(w *api.Weights) { w.Factors[0] = frac(1000000, 500000) },
	} {
		v := copyWeights(w)
		change(&v)
		wantCheck(t, what, set, v, true)
	}
}

// Example 2: a set with a torus, whatever the weights are.
func TestCheckOfTorus(t *testing.T) {
	set := parse(t, "1.0.1.0")
	some := []api.Frac{frac(0, 1), frac(0, 2), frac(1, 1), frac(1, 2), frac(2, 1), frac(2, 4), frac(3, 1)}
	for _, value := range some {
		for _, other := range some {
			for _, factor := range some {
				if factor.Num == 0 {
					continue
				}
				for _, logs := range [][]int{{1, 0}, {-1, 0}, {1, 1}, {-1, -1}, {3, 2}} {
					w := api.Weights{Values: []api.Frac{other, value}, Carries: []api.Frac{other}, Factors: []api.Frac{factor}, Primes: []int{2, 3}, Logs: logs}
					wantCheck(t, fmt.Sprint(w), set, w, false)
				}
			}
		}
	}
}

// The empty set meets all conditions.
func TestCheckOfNothing(t *testing.T) {
	wantCheck(t, "no primes", nil, api.Weights{}, true)
	wantCheck(t, "empty lists", []api.Tile{}, api.Weights{Values: []api.Frac{}, Primes: []int{}, Logs: []int{}}, true)
	wantCheck(t, "primes", nil, api.Weights{Primes: []int{2, 5}, Logs: []int{0, -4}}, true)
	if _, e := weight.Check(nil, api.Weights{Values: whole(1)}); e != api.ErrForm {
		t.Errorf("a value: error %d", e)
	}
}

func TestCheckOfEndless(t *testing.T) {
	set, w := endless()
	wantCheck(t, "2 and 2/3", set, w, true)
	for _, logs := range [][]int{{1, 0}, {1, -3}, {1000, 999}, {5, 4}} {
		w.Logs = logs
		wantCheck(t, fmt.Sprint(logs), set, w, true)
	}
	for _, logs := range [][]int{{0, 0}, {0, 1}, {0, -1}, {1, 1}, {1, 2}, {-1, -2}, {1000, 1000}} {
		w.Logs = logs
		wantCheck(t, fmt.Sprint(logs), set, w, false)
	}
}

// Condition 1 counts each side of each tile, and each of the numbers there.
func TestEvenTiles(t *testing.T) {
	set := parse(t, "2.1.3.0 0.2.1.3")
	w := api.Weights{
		Values:  []api.Frac{frac(7, 6), frac(1, 3), frac(1, 2), frac(1, 4)},
		Carries: []api.Frac{frac(1, 4), frac(1, 8), frac(-11, 12), frac(0, 1)},
		Factors: []api.Frac{frac(3, 2), frac(3, 4)},
		Primes:  []int{3, 2},
		Logs:    []int{5, 1},
	}
	// 3/2 * 1/4 + 1/4 = 5/8 = 1/2 + 1/8, and 3/4 * 1/3 + 0 = 1/4 = 7/6 - 11/12.
	wantCheck(t, "even", set, w, true)
	for i := range w.Values {
		v := copyWeights(w)
		v.Values[i] = frac(v.Values[i].Num*1000+1, v.Values[i].Den*1000)
		wantCheck(t, fmt.Sprint("value ", i), set, v, false)
	}
	for i := range w.Carries {
		v := copyWeights(w)
		v.Carries[i] = frac(v.Carries[i].Num*1000+1, v.Carries[i].Den*1000)
		wantCheck(t, fmt.Sprint("carry ", i), set, v, false)
	}
	for i := range w.Factors {
		v := copyWeights(w)
		v.Factors[i] = frac(v.Factors[i].Num*27, v.Factors[i].Den*16)
		wantCheck(t, fmt.Sprint("factor ", i), set, v, false)
	}
}

// The greatest numbers do not overflow, and the least difference counts.
func TestGreatNumbers(t *testing.T) {
	set := parse(t, "1.1.0.0")
	for _, c := range []struct {
		factor, south, west, north, east api.Frac
		want                             bool
	}{
		// 3^12 * 1/2^19 times 2^19/999983 is 3^12/999983.
		{frac(531441, 524288), frac(524288, 999983), frac(999961, 999979), frac(531441, 999983), frac(999961, 999979), true},
		{frac(531441, 524288), frac(524288, 999983), frac(999961, 999979), frac(531440, 999983), frac(999961, 999979), false},
		{frac(531441, 524288), frac(524288, 999983), frac(999961, 999979), frac(531441, 999983), frac(999960, 999979), false},
		{frac(531441, 524288), frac(524288, 999983), frac(-999961, 999979), frac(531441, 999983), frac(-999961, 999979), true},
		{frac(531441, 524288), frac(524287, 999983), frac(999961, 999979), frac(531441, 999983), frac(999961, 999979), false},
		// The difference is 2^32, in the numerators.
		{frac(65536, 1), frac(65536, 1), frac(0, 1), frac(0, 1), frac(0, 1), false},
		{frac(2, 1), frac(32768, 1), frac(1, 65536), frac(0, 1), frac(1, 65536), false},
		{frac(1000000, 1), frac(1, 1), frac(0, 1), frac(1000000, 1), frac(0, 1), true},
		{frac(1000000, 1), frac(1000000, 1), frac(-1000000, 1), frac(1000000, 1), frac(1000000, 1), false},
		{frac(1000000, 1), frac(1, 1000000), frac(-1000000, 1), frac(1, 1), frac(-1000000, 1), true},
		{frac(1000000, 1000), frac(1, 1000), frac(1000000, 1), frac(1000000, 1), frac(1000000, 1000000), true},
		{frac(1000000, 999999), frac(1000000, 999999), frac(1000000, 999999), frac(1000000, 999999), frac(1000000, 999999), false},
	} {
		w := api.Weights{Values: []api.Frac{c.south, c.north}, Carries: []api.Frac{c.west, c.east}, Factors: []api.Frac{c.factor}, Primes: []int{2, 3, 5}, Logs: []int{1, 4, 1}}
		wantCheck(t, fmt.Sprint(c), set, w, c.want)
	}
}

// Weights with numbers near MaxPart, for which condition 1 holds or nearly holds, against the definition.
func TestGreatNumbersAgainstDefinition(t *testing.T) {
	next := numbers()
	great := func() int { return api.MaxPart - next(50) }
	set := parse(t, "1.1.0.0")
	even := 0
	for range 3000 {
		// A power of 2 above a power of 3, below MaxPart, so that condition 4 holds.
		a, b, c, d, e := 524288, []int{177147, 531441}[next(2)], great(), great(), great()
		w := api.Weights{Values: []api.Frac{frac(b, c), frac(a, c)}, Carries: []api.Frac{frac(d, e), frac(d, e)}, Factors: []api.Frac{frac(a, b)}, Primes: []int{2, 3}, Logs: []int{1, -1}}
		for range next(3) {
			list := [][]api.Frac{w.Values, w.Carries}[next(2)]
			list[next(2)].Num = great()
		}
		is := failing(set, w) == 0
		if is {
			even++
		}
		wantCheck(t, fmt.Sprint(w), set, w, is)
	}
	if even < 500 || even > 2500 {
		t.Errorf("%d are even", even)
	}
}

// Condition 2, without the others: tiles with different factors, beside each other or not.
func TestFactorsOfNeighbours(t *testing.T) {
	for _, c := range []struct {
		set     string
		factors []api.Frac
		want    bool
	}{
		{"1.0.1.1 1.1.1.0", []api.Frac{frac(2, 1), frac(2, 1)}, true},
		{"1.0.1.1 1.1.1.0", []api.Frac{frac(2, 1), frac(4, 2)}, true},
		{"1.0.1.1 1.1.1.0", []api.Frac{frac(6, 3), frac(4, 2)}, true},
		{"1.0.1.1 1.1.1.0", []api.Frac{frac(2, 1), frac(4, 1)}, false},
		// Only the first one has the other one to its east, or the other way round.
		{"1.1.1.0 1.2.1.1", []api.Frac{frac(2, 1), frac(4, 1)}, false},
		{"1.2.1.1 1.1.1.0", []api.Frac{frac(2, 1), frac(4, 1)}, false},
		// The same colour at the same side.
		{"1.1.1.0 2.1.1.0", []api.Frac{frac(2, 1), frac(4, 1)}, true},
		{"1.1.1.0 1.1.1.2", []api.Frac{frac(2, 1), frac(4, 1)}, true},
		{"1.1.1.0 1.2.1.0", []api.Frac{frac(2, 1), frac(4, 1)}, true},
		// Two tiles that differ are beside a third one.
		{"1.1.1.0 1.1.1.2 1.3.1.1", []api.Frac{frac(2, 1), frac(4, 1), frac(2, 1)}, false},
		{"1.1.1.0 1.1.1.2 1.3.1.1", []api.Frac{frac(2, 1), frac(4, 1), frac(4, 1)}, false},
		{"1.1.1.0 1.2.1.1 1.3.1.1", []api.Frac{frac(2, 1), frac(2, 1), frac(4, 1)}, false},
		{"1.1.1.0 1.1.1.2 1.4.1.3", []api.Frac{frac(2, 1), frac(4, 1), frac(8, 1)}, true},
		// A tile beside itself.
		{"1.0.1.0 1.1.1.1", []api.Frac{frac(2, 1), frac(4, 1)}, true},
	} {
		// Each S has the value 1 and each N that of the factor, so that the other conditions hold.
		set := parse(t, c.set)
		w := sized(set, one, nothing, one)
		w.Values, w.Factors = nil, c.factors
		for i := range set {
			set[i].S, set[i].N = 2*i, 2*i+1
			w.Values = append(w.Values, one(), c.factors[i])
		}
		w.Primes, w.Logs = []int{2}, []int{1}
		wantCheck(t, fmt.Sprint(c.set, c.factors), set, w, c.want)
	}
}

// Condition 3, without the others: only the colour 9 has a value to the south.
func TestCycles(t *testing.T) {
	for _, c := range []struct {
		set  string
		want bool
	}{
		{"0.1.0.0", true},
		{"0.0.0.0", false},
		{"0.1.0.0 0.2.0.1 0.3.0.2", true},
		{"0.1.0.0 0.2.0.1 0.0.0.2", false},
		{"0.2.0.1 0.0.0.2 0.1.0.0", false},
		{"0.1.0.0 0.2.0.1 0.1.0.2", false},
		{"0.1.0.0 0.1.0.1 0.2.0.1", false},
		{"0.1.0.0 0.2.0.0 0.2.0.1 0.3.0.1 0.3.0.2", true},
		{"0.1.0.0 0.2.0.0 0.2.0.1 0.3.0.1 0.3.0.2 0.0.0.3", false},
		// The cycle goes over a value.
		{"0.0.9.0", true},
		{"0.1.9.0 0.0.0.1", true},
		{"0.1.0.0 0.2.9.1 0.0.0.2", true},
		{"0.1.0.0 0.2.9.1 0.2.0.1 0.0.0.2", false},
		{"0.1.0.0 0.0.0.1 0.0.9.0", false},
		// Other colours have the value 0, too.
		{"0.0.2.0", false},
		{"0.1.2.0 0.0.3.1", false},
		{"0.0.8.0 0.0.9.0", false},
	} {
		set := parse(t, c.set)
		w := sized(set, nothing, nothing, func() api.Frac { return frac(2, 1) })
		if len(w.Values) == 10 {
			w.Values[9] = frac(1, 3)
		}
		// Each N has twice the value of S, so that the other conditions hold.
		for i := range set {
			set[i].N = len(w.Values)
			f := w.Values[set[i].S]
			w.Values = append(w.Values, frac(2*f.Num, f.Den))
		}
		w.Primes, w.Logs = []int{2}, []int{1}
		wantCheck(t, c.set, set, w, c.want)
	}
}

// A cycle of all tiles, and a row that is as long and does not come back.
func TestLongCycles(t *testing.T) {
	for _, n := range []int{api.MaxTiles - 1, api.MaxTiles} {
		set := longRow(n)
		w := sized(set, nothing, nothing, func() api.Frac { return frac(2, 1) })
		w.Primes, w.Logs = []int{2}, []int{1}
		for range 2 {
			if got, want := check(t, set, w), n < api.MaxTiles; got != want {
				t.Errorf("%d tiles from %v: %v", n, set[0], got)
			}
			slices.Reverse(set)
		}
	}
}

// Condition 4: what is a product of powers of the primes, and has a sum that is greater than 0.
func TestFactorsOfPrimes(t *testing.T) {
	for _, c := range []struct {
		factor       api.Frac
		primes, logs []int
		want         bool
	}{
		{frac(1, 1), nil, nil, false},
		{frac(1, 1), []int{2}, []int{1}, false},
		{frac(7, 7), []int{7}, []int{1}, false},
		{frac(2, 1), nil, nil, false},
		{frac(1, 2), []int{2}, []int{-1}, true},
		{frac(1, 2), []int{2}, []int{1}, false},
		{frac(6, 1), []int{2}, []int{1}, false},
		{frac(1, 6), []int{2}, []int{-1}, false},
		{frac(1, 6), []int{3}, []int{-1}, false},
		{frac(6, 3), []int{2}, []int{1}, true},
		{frac(6, 3), []int{3, 2}, []int{-1000, 1}, true},
		{frac(6, 3), []int{3, 2}, []int{1000, 0}, false},
		{frac(14, 21), []int{2, 3}, []int{3, 2}, true},
		{frac(14, 21), []int{7, 3, 2}, []int{-1000, 2, 3}, true},
		{frac(2, 3), []int{2, 3}, []int{2, 2}, false},
		{frac(4, 3), []int{2, 3}, []int{2, 3}, true},
		{frac(4, 3), []int{3, 2}, []int{3, 2}, true},
		{frac(4, 3), []int{3, 2}, []int{4, 2}, false},
		{frac(8, 9), []int{2, 3}, []int{2, 3}, false},
		{frac(9, 8), []int{2, 3}, []int{2, 3}, false},
		{frac(9, 8), []int{2, 3}, []int{199, 300}, true},
		{frac(524288, 1), []int{2}, []int{1}, true},
		{frac(524288, 531441), []int{2, 3}, []int{12, 18}, true},
		{frac(524288, 531441), []int{2, 3}, []int{12, 19}, false},
		{frac(1, 524288), []int{2}, []int{-1000}, true},
		{frac(1000000, 1), []int{2, 5}, []int{1, -1}, false},
		{frac(1000000, 1), []int{2, 5}, []int{2, -1}, true},
		{frac(1000000, 1), []int{2, 3}, []int{1, 1}, false},
		{frac(greatPrime, 1), []int{greatPrime}, []int{1}, true},
		{frac(greatPrime, 1), []int{2, 3, 5, 7}, []int{1, 1, 1, 1}, false},
		{frac(1, greatPrime), []int{2, greatPrime}, []int{0, -1}, true},
		{frac(510510, 1), []int{2, 3, 5, 7, 11, 13, 17}, []int{-6, 1, 1, 1, 1, 1, 2}, true},
		{frac(510510, 1), []int{2, 3, 5, 7, 11, 13, 17}, []int{-6, 1, 1, 1, 1, 1, 1}, false},
		{frac(510510, 1), []int{2, 3, 5, 7, 11, 13}, []int{1, 1, 1, 1, 1, 1}, false},
		{frac(510510, 1), []int{17, 13, 11, 7, 5, 3, 2, 19, 23, 29, 31, 37}, []int{0, 0, 0, 0, 0, 0, 1, -9, -9, -9, -9, -9}, true},
	} {
		// The only tile does not lie beside itself; it has the value 0, and no cycle.
		set := parse(t, "0.1.0.0")
		w := api.Weights{Values: whole(0), Carries: whole(1, 1), Factors: []api.Frac{c.factor}, Primes: c.primes, Logs: c.logs}
		wantCheck(t, fmt.Sprint(c), set, w, c.want)
		// The other tile has a good factor.
		set = parse(t, "0.1.0.0 0.3.0.2")
		for _, first := range []bool{true, false} {
			w.Carries = whole(1, 1, 2, 2)
			w.Primes, w.Logs = append(slices.Clone(c.primes), 43), append(slices.Clone(c.logs), 1)
			w.Factors = []api.Frac{c.factor, frac(43, 1)}
			if !first {
				slices.Reverse(w.Factors)
			}
			if len(w.Primes) <= api.MaxPrimes {
				wantCheck(t, fmt.Sprint(c, first), set, w, c.want)
			}
		}
	}
}

// Small sets with small weights, against the definition. Each condition fails alone for some of them.
func TestCheckAgainstDefinition(t *testing.T) {
	fails := map[int]int{}
	next := numbers()
	sets := slices.Concat(mixedSets(60, 1, 2), mixedSets(150, 2, 2), mixedSets(60, 3, 2), mixedSets(150, 2, 4), mixedSets(60, 3, 4))
	for _, set := range append(sets, nil) {
		for range 200 {
			w := smallWeights(set, next)
			fail := failing(set, w)
			fails[fail]++
			if got := check(t, set, w); got != (fail == 0) {
				t.Fatalf("%v, %v: %v, but %b fail", set, w, got, fail)
			}
		}
	}
	for _, fail := range []int{0, 1, 2, 4, 8} {
		if fails[fail] < 20 {
			t.Errorf("conditions %04b fail only %d times", fail, fails[fail])
		}
	}
}

// smallWeights returns weights for which the conditions often hold.
func smallWeights(set []api.Tile, next func(int) int) api.Weights {
	pick := func(l ...api.Frac) func() api.Frac { return func() api.Frac { return l[next(len(l))] } }
	value := pick(frac(0, 1), frac(0, 3), frac(1, 1), frac(2, 1), frac(2, 2), frac(1, 2))
	carry := pick(frac(0, 1), frac(1, 1), frac(-1, 1), frac(0, 2))
	factor := pick(frac(2, 1), frac(4, 2), frac(4, 1), frac(1, 2), frac(1, 1))
	w := sized(set, value, carry, factor)
	w.Primes, w.Logs = []int{2}, []int{1}
	if next(4) == 0 {
		w.Primes, w.Logs = []int{3, 2}, []int{1 - next(3), 1 - next(3)}
	}
	return w
}

// As many tiles and colours as there can be: the check does not take long.
func TestCheckOfManyTiles(t *testing.T) {
	var set []api.Tile
	for i := range api.MaxTiles {
		set = append(set, api.Tile{N: i, E: i * 7 % api.MaxColours, S: i, W: i})
	}
	w := sized(set, func() api.Frac { return frac(0, 9) }, func() api.Frac { return frac(4, 6) }, func() api.Frac { return frac(6, 3) })
	w.Primes, w.Logs = []int{2}, []int{1}
	wantCheck(t, "all lie beside each other, with the value 0", set, w, false)
	for i := range w.Values {
		w.Values[i] = frac(1, 2)
	}
	wantCheck(t, "with a value, uneven", set, w, false)
	for i := range set {
		set[i].S, set[i].N = 0, 1
	}
	w.Values = []api.Frac{frac(1, 2), frac(3, 3)}
	wantCheck(t, "even", set, w, true)
	w.Factors[999] = frac(4, 1)
	wantCheck(t, "the last one", set, w, false)
}
