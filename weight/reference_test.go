package weight_test

import (
	"math/big"

	"groutwork/api"
)

// The conditions here follow the chapter word by word, with numbers of any length.

func rational(f api.Frac) *big.Rat { return big.NewRat(int64(f.Num), int64(f.Den)) }

func product(f, g api.Frac) *big.Rat { return new(big.Rat).Mul(rational(f), rational(g)) }

func plus(r *big.Rat, f api.Frac) *big.Rat { return new(big.Rat).Add(r, rational(f)) }

// failing returns the conditions that fail: 1 for the first one, 2, 4 and 8 for the others.
func failing(set []api.Tile, w api.Weights) int {
	fail := 0
	for bit, holds := range []func([]api.Tile, api.Weights) bool{isEven, keeps, noCycle, rises} {
		if !holds(set, w) {
			fail |= 1 << bit
		}
	}
	return fail
}

func isEven(set []api.Tile, w api.Weights) bool {
	for i, t := range set {
		in := plus(product(w.Factors[i], w.Values[t.S]), w.Carries[t.W])
		if in.Cmp(plus(rational(w.Values[t.N]), w.Carries[t.E])) != 0 {
			return false
		}
	}
	return true
}

func keeps(set []api.Tile, w api.Weights) bool {
	for i, x := range set {
		for j, y := range set {
			if x.E == y.W && rational(w.Factors[i]).Cmp(rational(w.Factors[j])) != 0 {
				return false
			}
		}
	}
	return true
}

// noCycle looks for a way from each tile back to it.
func noCycle(set []api.Tile, w api.Weights) bool {
	for i := range set {
		if isZero(set, w, i) && comesBack(set, w, i) {
			return false
		}
	}
	return true
}

func isZero(set []api.Tile, w api.Weights, i int) bool {
	return rational(w.Values[set[i].S]).Sign() == 0
}

func comesBack(set []api.Tile, w api.Weights, start int) bool {
	seen := map[int]bool{}
	todo := []int{start}
	for len(todo) > 0 {
		i := todo[0]
		todo = todo[1:]
		for j := range set {
			if set[i].E != set[j].W || !isZero(set, w, j) {
				continue
			}
			if j == start {
				return true
			}
			if !seen[j] {
				seen[j] = true
				todo = append(todo, j)
			}
		}
	}
	return false
}

// rises multiplies the powers of the primes again.
func rises(set []api.Tile, w api.Weights) bool {
	for _, f := range w.Factors {
		total := 0
		all := big.NewRat(1, 1)
		for i, p := range w.Primes {
			for r := rational(f); isDivisible(r.Num(), p); r.Quo(r, big.NewRat(int64(p), 1)) {
				total += w.Logs[i]
				all.Mul(all, big.NewRat(int64(p), 1))
			}
			for r := rational(f); isDivisible(r.Denom(), p); r.Mul(r, big.NewRat(int64(p), 1)) {
				total -= w.Logs[i]
				all.Mul(all, big.NewRat(1, int64(p)))
			}
		}
		if total <= 0 || all.Cmp(rational(f)) != 0 {
			return false
		}
	}
	return true
}

func isDivisible(n *big.Int, p int) bool {
	return new(big.Int).Mod(n, big.NewInt(int64(p))).Sign() == 0
}

// sums returns the sums of the values of S and of N of a row, however great they are.
func sums(set []api.Tile, w api.Weights, row []int) (*big.Rat, *big.Rat) {
	south, north := new(big.Rat), new(big.Rat)
	for _, i := range row {
		south = plus(south, w.Values[set[i].S])
		north = plus(north, w.Values[set[i].N])
	}
	return south, north
}

// asFrac returns a number as a valid fraction in lowest terms, if it is one.
func asFrac(r *big.Rat) (api.Frac, bool) {
	most := big.NewInt(api.MaxPart)
	if r.Num().CmpAbs(most) > 0 || r.Denom().Cmp(most) > 0 {
		return api.Frac{}, false
	}
	return frac(int(r.Num().Int64()), int(r.Denom().Int64())), true
}

// isFine reports whether the least common multiple of the denominators of the values, in lowest terms, is at most MaxPart.
func isFine(w api.Weights) bool {
	common := big.NewInt(1)
	for _, f := range w.Values {
		d := rational(f).Denom()
		both := new(big.Int).GCD(nil, nil, common, d)
		common.Mul(common, new(big.Int).Quo(d, both))
	}
	return common.Cmp(big.NewInt(api.MaxPart)) <= 0
}
