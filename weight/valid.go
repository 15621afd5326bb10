package weight

import (
	"slices"

	"groutwork/api"
	"groutwork/tile"
)

const greatestLog = 1000

// Valid reports whether weights are valid for a set.
func Valid(set []api.Tile, w api.Weights) bool {
	if !tile.Valid(set) {
		return false
	}
	values, carries := colours(set)
	return len(w.Values) == values && every(w.Values, fraction.isValue) &&
		len(w.Carries) == carries && every(w.Carries, fraction.isValid) &&
		len(w.Factors) == len(set) && every(w.Factors, fraction.isFactor) &&
		arePrimes(w.Primes) && len(w.Logs) == len(w.Primes) && areLogs(w.Logs)
}

// colours returns how many colours, from 0 to the greatest one, a set has to the north and south, and to the east and west.
func colours(set []api.Tile) (int, int) {
	vertical, horizontal := 0, 0
	for _, t := range set {
		vertical = max(vertical, t.N+1, t.S+1)
		horizontal = max(horizontal, t.E+1, t.W+1)
	}
	return vertical, horizontal
}

// every reports whether something is true of all fractions.
func every(list []api.Frac, is func(fraction) bool) bool {
	for _, f := range list {
		if !is(fraction(f)) {
			return false
		}
	}
	return true
}

// arePrimes reports whether a list is one of different primes, neither too many nor too great.
func arePrimes(list []int) bool {
	if len(list) > api.MaxPrimes {
		return false
	}
	for i, p := range list {
		if p > api.MaxPart || !isPrime(p) || slices.Contains(list[:i], p) {
			return false
		}
	}
	return true
}

func isPrime(n int) bool {
	if n < 2 {
		return false
	}
	for d := 2; d*d <= n; d++ {
		if n%d == 0 {
			return false
		}
	}
	return true
}

func areLogs(list []int) bool {
	for _, log := range list {
		if log < -greatestLog || log > greatestLog {
			return false
		}
	}
	return true
}
