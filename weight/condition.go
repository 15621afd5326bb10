package weight

import (
	"slices"

	"groutwork/api"
)

// weighed is a tile with its factor, and with the values and carries of its sides, in lowest terms.
type weighed struct {
	api.Tile
	factor, north, east, south, west fraction
}

func weigh(set []api.Tile, w api.Weights) []weighed {
	list := make([]weighed, len(set))
	for i, t := range set {
		list[i] = weighed{
			Tile:   t,
			factor: lowest(w.Factors[i]),
			north:  lowest(w.Values[t.N]),
			east:   lowest(w.Carries[t.E]),
			south:  lowest(w.Values[t.S]),
			west:   lowest(w.Carries[t.W]),
		}
	}
	return list
}

// conditions returns the conditions under which valid weights exclude all periods, in the order of the chapter.
func conditions(set []api.Tile, w api.Weights) []func() bool {
	list := weigh(set, w)
	return []func() bool{
		func() bool { return !slices.ContainsFunc(list, weighed.isUneven) },
		func() bool { return keepFactors(list) },
		func() bool { return !haveCycle(worthless(list)) },
		func() bool { return allGrow(list, w.Primes, w.Logs) },
	}
}

// isUneven reports whether what comes in from the south and the west differs from what goes out to the north and the east.
func (t weighed) isUneven() bool {
	return t.factor.times(t.south).plus(t.west) != t.north.plus(t.east)
}

// keepFactors reports whether tiles have the same factor wherever one can lie beside the other.
func keepFactors(list []weighed) bool {
	for i := range list {
		for j := range list {
			if list[i].E == list[j].W && list[i].factor != list[j].factor {
				return false
			}
		}
	}
	return true
}

// worthless returns the tiles whose S has the value 0.
func worthless(list []weighed) []api.Tile {
	var some []api.Tile
	for _, t := range list {
		if t.south.Num == 0 {
			some = append(some, t.Tile)
		}
	}
	return some
}

// haveCycle reports whether some of the tiles form a cycle. Those without a neighbour to the east are in none. When all have one, a path goes on to the east for ever, and so comes back.
func haveCycle(list []api.Tile) bool {
	for len(list) > 0 {
		left := leading(list)
		if len(left) == len(list) {
			return true
		}
		list = left
	}
	return false
}

// leading returns the tiles that have a neighbour to the east.
func leading(list []api.Tile) []api.Tile {
	var begins [api.MaxColours]bool
	for _, t := range list {
		begins[t.W] = true
	}
	var left []api.Tile
	for _, t := range list {
		if begins[t.E] {
			left = append(left, t)
		}
	}
	return left
}

func allGrow(list []weighed, primes, logs []int) bool {
	for _, t := range list {
		if !grows(t.factor, primes, logs) {
			return false
		}
	}
	return true
}

// grows reports whether a factor, in lowest terms, is a product of powers of the primes, and the sum of the logs, each times the exponent of its prime, is greater than 0.
func grows(factor fraction, primes, logs []int) bool {
	total := 0
	for i, p := range primes {
		up, num := exponent(factor.Num, p)
		down, den := exponent(factor.Den, p)
		total += logs[i] * (up - down)
		factor = fraction{Num: num, Den: den}
	}
	return factor == fraction{Num: 1, Den: 1} && total > 0
}

// exponent returns how often a positive number can be divided by p, and what is left of it then.
func exponent(n, p int) (int, int) {
	times := 0
	for n%p == 0 {
		n /= p
		times++
	}
	return times, n
}
