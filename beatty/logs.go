package beatty

import (
	"iter"
	"slices"

	"groutwork/api"
)

const greatestLog = 3

// primesOf returns the primes that divide a numerator or a denominator of the factors, rising.
func primesOf(l []api.Piece) []int {
	var primes []int
	for _, prime := range []int{2, 3, 5, 7, 11} {
		if slices.ContainsFunc(l, func(p api.Piece) bool { return exponent(p.Factor, prime) != 0 }) {
			primes = append(primes, prime)
		}
	}
	return primes
}

// exponent returns the exponent of a prime in a fraction in lowest terms.
func exponent(f api.Frac, prime int) int {
	times := 0
	for ; f.Num%prime == 0; f.Num /= prime {
		times++
	}
	for ; f.Den%prime == 0; f.Den /= prime {
		times--
	}
	return times
}

// firstLogs returns the first list of logs with which all factors grow, if there is one.
func firstLogs(l []api.Piece, primes []int) ([]int, bool) {
	for logs := range logLists(len(primes)) {
		if allGrow(l, primes, logs) {
			return slices.Clone(logs), true
		}
	}
	return nil, false
}

// allGrow reports whether for each factor the sum of the logs, each times the exponent of its prime, is greater than 0.
func allGrow(l []api.Piece, primes, logs []int) bool {
	for _, p := range l {
		total := 0
		for i, prime := range primes {
			total += logs[i] * exponent(p.Factor, prime)
		}
		if total <= 0 {
			return false
		}
	}
	return true
}

// logLists yields the lists of n logs, in order. It writes each one into the memory of the one before.
func logLists(n int) iter.Seq[[]int] {
	return func(yield func([]int) bool) {
		logs := slices.Repeat([]int{-greatestLog}, n)
		for yield(logs) {
			i := n - 1
			for ; i >= 0 && logs[i] == greatestLog; i-- {
				logs[i] = -greatestLog
			}
			if i < 0 {
				return
			}
			logs[i]++
		}
	}
}
