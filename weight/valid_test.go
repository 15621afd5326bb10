package weight_test

import (
	"fmt"
	"slices"
	"testing"

	"groutwork/api"
	"groutwork/weight"
)

// invalidSets returns a set for each way of not being valid.
func invalidSets() map[string][]api.Tile {
	return map[string][]api.Tile{
		"negative north": {{N: -1}},
		"negative east":  {{E: -1}},
		"negative south": {{S: -1}},
		"negative west":  {{W: -1}},
		"all negative":   {{N: -1, E: -1, S: -1, W: -1}},
		"great north":    {{N: api.MaxColours}},
		"great east":     {{E: api.MaxColours}},
		"great south":    {{S: api.MaxColours}},
		"great west":     {{}, {W: api.MaxColours}},
		"greatest int":   {{}, {N: greatest}},
		"greatest ints":  {{N: greatest, E: greatest, S: greatest, W: greatest}},
		"least int":      {{}, {W: least}},
		"equal tiles":    {{N: 1}, {}, {N: 1}},
		"too many tiles": append(longRow(api.MaxTiles), api.Tile{N: 1}),
	}
}

func TestInvalidSets(t *testing.T) {
	for name, set := range invalidSets() {
		wantInvalid(t, name, set, api.Weights{})
		for _, n := range []int{1, 2, api.MaxColours + 1} {
			w := api.Weights{Values: times(n, frac(1, 1)), Carries: times(n, frac(0, 1)), Factors: times(len(set), frac(2, 1)), Primes: []int{2}, Logs: []int{1}}
			wantInvalid(t, name, set, w)
		}
	}
}

// The lengths are those that the greatest colours ask for, at whichever side they are.
func TestLengths(t *testing.T) {
	for _, c := range []struct {
		set             string
		values, carries int
	}{
		{"", 0, 0},
		{"0.0.0.0", 1, 1},
		{"3.0.0.0", 4, 1},
		{"0.3.0.0", 1, 4},
		{"0.0.3.0", 4, 1},
		{"0.0.0.3", 1, 4},
		{"1.2.3.4", 4, 5},
		{"4.3.2.1", 5, 4},
		{"0.0.0.0 7.0.0.9 2.2.2.2", 8, 10},
		{"0.9.7.0 2.2.2.2", 8, 10},
		{"999.0.0.0", 1000, 1},
		{"0.0.0.999", 1, 1000},
		{"0.999.999.0", 1000, 1000},
	} {
		set := parse(t, c.set)
		for _, d := range [][3]int{{0, 0, 0}, {-1, 0, 0}, {1, 0, 0}, {0, -1, 0}, {0, 1, 0}, {0, 0, -1}, {0, 0, 1}, {1, -1, 0}, {-1, 1, 0}, {0, 1, -1}, {1000, 0, 0}} {
			values, carries, factors := c.values+d[0], c.carries+d[1], len(set)+d[2]
			if values < 0 || carries < 0 || factors < 0 {
				continue
			}
			w := api.Weights{Values: times(values, frac(1, 2)), Carries: times(carries, frac(-1, 2)), Factors: times(factors, frac(2, 1))}
			what := fmt.Sprintf("%s: %d, %d, %d", c.set, values, carries, factors)
			if d != [3]int{} {
				wantInvalid(t, what, set, w)
			} else if !weight.Valid(set, w) {
				t.Errorf("%s: not valid", what)
			}
		}
	}
}

// Fractions that are valid as a carry, and whether they are as a value and as a factor.
func TestFractions(t *testing.T) {
	for _, c := range []struct {
		f                    api.Frac
		carry, value, factor bool
	}{
		{frac(1, 1), true, true, true},
		{frac(2, 4), true, true, true},
		{frac(0, 1), true, true, false},
		{frac(0, 7), true, true, false},
		{frac(0, api.MaxPart), true, true, false},
		{frac(-1, 1), true, false, false},
		{frac(-1, api.MaxPart), true, false, false},
		{frac(1, api.MaxPart), true, true, true},
		{frac(api.MaxPart, 1), true, true, true},
		{frac(api.MaxPart, api.MaxPart), true, true, true},
		{frac(-api.MaxPart, 1), true, false, false},
		{api.Frac{}, false, false, false},
		{frac(1, 0), false, false, false},
		{frac(1, -1), false, false, false},
		{frac(-1, -1), false, false, false},
		{frac(0, -1), false, false, false},
		{frac(1, api.MaxPart+1), false, false, false},
		{frac(2, 2*api.MaxPart), false, false, false},
		{frac(api.MaxPart+1, 1), false, false, false},
		{frac(2*api.MaxPart, 2), false, false, false},
		{frac(-api.MaxPart-1, 1), false, false, false},
		{frac(greatest, 1), false, false, false},
		{frac(least, 1), false, false, false},
		{frac(1, greatest), false, false, false},
		{frac(1, least), false, false, false},
		{frac(least, -1), false, false, false},
		{frac(least, least), false, false, false},
	} {
		for at := range 3 {
			for what, list := range map[string]func(*api.Weights) ([]api.Frac, bool){
				"carry":  func(w *api.Weights) ([]api.Frac, bool) { return w.Carries, c.carry },
				"value":  func(w *api.Weights) ([]api.Frac, bool) { return w.Values, c.value },
				"factor": func(w *api.Weights) ([]api.Frac, bool) { return w.Factors, c.factor },
			} {
				set := parse(t, "0.1.2.2 1.0.1.2 2.2.1.0")
				w := api.Weights{Values: whole(1, 2, 3), Carries: whole(1, 2, 3), Factors: whole(1, 2, 3)}
				fractions, want := list(&w)
				fractions[at] = c.f
				what := fmt.Sprintf("%v as %s %d", c.f, what, at)
				if !want {
					wantInvalid(t, what, set, w)
				} else if !weight.Valid(set, w) {
					t.Errorf("%s: not valid", what)
				}
			}
		}
	}
}

var twelvePrimes = []int{2, 3, 5, 7, 11, 13, 17, 19, 23, 29, 31, greatPrime}

func TestPrimesAndLogs(t *testing.T) {
	for _, c := range []struct {
		primes, logs []int
		want         bool
	}{
		{nil, nil, true},
		{[]int{2}, []int{0}, true},
		{[]int{2}, []int{1000}, true},
		{[]int{2}, []int{-1000}, true},
		{[]int{3, 2}, []int{1, 1}, true},
		{[]int{7, 5, 2, 3}, []int{0, -1, 5, 1000}, true},
		{[]int{greatPrime}, []int{1}, true},
		{[]int{997}, []int{1}, true},
		{twelvePrimes, make([]int, 12), true},
		{[]int{2}, []int{1001}, false},
		{[]int{2}, []int{-1001}, false},
		{[]int{2, 3}, []int{0, 1001}, false},
		{[]int{2}, []int{greatest}, false},
		{[]int{2}, []int{least}, false},
		{[]int{2}, nil, false},
		{nil, []int{1}, false},
		{[]int{2}, []int{1, 1}, false},
		{[]int{2, 3}, []int{1}, false},
		{twelvePrimes, make([]int, 13), false},
		{append(slices.Clone(twelvePrimes), 37), make([]int, 13), false},
		{append(slices.Clone(twelvePrimes), 37), make([]int, 12), false},
		{[]int{2, 2}, []int{1, 1}, false},
		{[]int{2, 3, 5, 2}, []int{1, 1, 1, 1}, false},
		{[]int{5, 2, 3, 3}, []int{1, 1, 1, 1}, false},
		{[]int{-2}, []int{1}, false},
		{[]int{-7}, []int{1}, false},
		{[]int{greatest}, []int{1}, false},
		{[]int{least}, []int{1}, false},
		{[]int{1<<61 - 1}, []int{1}, false},
		{[]int{1000003}, []int{1}, false},
		{[]int{2, 3, 1000003}, []int{1, 1, 1}, false},
		{[]int{997 * 997}, []int{1}, false},
		{[]int{991 * 997}, []int{1}, false},
		{[]int{api.MaxPart}, []int{1}, false},
		{[]int{2, 3, 4}, []int{1, 1, 1}, false},
		{[]int{4, 3, 2}, []int{1, 1, 1}, false},
	} {
		set, w := twice(t)
		w.Primes, w.Logs = c.primes, c.logs
		what := fmt.Sprintf("primes %v, logs %v", c.primes, c.logs)
		for _, set := range [][]api.Tile{set, nil} {
			if set == nil {
				w.Values, w.Carries, w.Factors = nil, nil, nil
			}
			if !c.want {
				wantInvalid(t, what, set, w)
			} else if !weight.Valid(set, w) {
				t.Errorf("%s: not valid", what)
			}
		}
	}
}

// All small numbers as primes, and those at the upper end.
func TestWhatIsPrime(t *testing.T) {
	isPrime := make([]bool, api.MaxPart+100)
	for n := 2; n < len(isPrime); n++ {
		isPrime[n] = true
	}
	for n := 2; n < len(isPrime); n++ {
		for multiple := 2 * n; isPrime[n] && multiple < len(isPrime); multiple += n {
			isPrime[multiple] = false
		}
	}
	primes := 0
	for n := -10; n < len(isPrime); n++ {
		if n == 5000 {
			n = api.MaxPart - 5000
		}
		want := n >= 0 && n <= api.MaxPart && isPrime[n]
		if weight.Valid(nil, api.Weights{Primes: []int{n}, Logs: []int{1}}) != want {
			t.Errorf("%d: not %v", n, want)
		}
		if want {
			primes++
		}
	}
	if primes < 900 {
		t.Errorf("only %d primes", primes)
	}
}

// The lists are checked for themselves: one that is wrong is not made good by another one that is wrong, too.
func TestSwapped(t *testing.T) {
	set := parse(t, "2.0.1.0")
	wantInvalid(t, "values as carries", set, api.Weights{Values: whole(0), Carries: whole(0, 1, 2), Factors: whole(2), Primes: []int{2}, Logs: []int{1}})
	wantInvalid(t, "factors as values", set, api.Weights{Values: whole(2), Carries: whole(0), Factors: whole(0, 1, 2), Primes: []int{2}, Logs: []int{1}})
	wantInvalid(t, "logs as primes", set, api.Weights{Values: whole(0, 1, 2), Carries: whole(0), Factors: whole(2), Primes: []int{1}, Logs: []int{2}})
	wantInvalid(t, "zero value", set, api.Weights{})
	if !weight.Valid(nil, api.Weights{}) {
		t.Error("the empty set: not valid")
	}
}
