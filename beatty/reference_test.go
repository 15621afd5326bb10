package beatty_test

import (
	"cmp"
	"math/big"
	"slices"

	"groutwork/api"
)

// What follows is as the chapter defines it, word by word, with numbers of any length, or by trying numbers.

func rational(f api.Frac) *big.Rat { return big.NewRat(int64(f.Num), int64(f.Den)) }

func isIn(a *big.Rat, p api.Piece) bool {
	return a.Cmp(rational(p.Low)) >= 0 && a.Cmp(rational(p.High)) < 0
}

func firstPiece(l []api.Piece, a *big.Rat) int {
	return slices.IndexFunc(l, func(p api.Piece) bool { return isIn(a, p) })
}

// made is a tile of a piece; the carries to the west and to the east are counted in parts of 1/Den of the factor.
type made struct {
	piece, south, north, west, east int
}

// makeTile returns the tile of the numbers a and x, counted in parts of 1/m, and n.
func makeTile(index int, f api.Frac, a, x, m, n int) made {
	k := f.Num * (n*m + x) / (f.Den * m)
	both := f.Num * (n*m + x + a) / (f.Den * m)
	s := (x + a) / m
	return made{piece: index, south: s, north: both - k, west: f.Num*n - f.Den*k, east: f.Num*(n+s) - f.Den*both}
}

// allMade returns the tiles of all pieces, sorted, and each once.
func allMade(l []api.Piece) []made {
	var list []made
	for i, p := range l {
		list = append(list, madeOf(i, p)...)
	}
	slices.SortFunc(list, func(t, u made) int {
		return cmp.Or(t.piece-u.piece, t.south-u.south, t.north-u.north, t.west-u.west)
	})
	return slices.Compact(list)
}

// madeOf tries numbers a and x, counted in parts of 1/m. The integer parts change only where n + x or n + x + a is a multiple of 1/Num. For one a they do not fall when x rises: the x where they change are enough. Where two of these x meet, a is a multiple of 1/Num: these a, the ends, and one number between any two neighbours are enough.
func madeOf(index int, p api.Piece) []made {
	m := 2 * p.Factor.Num * p.Low.Den * p.High.Den
	step := m / p.Factor.Num
	low, high := p.Low.Num*(m/p.Low.Den), p.High.Num*(m/p.High.Den)
	ends := []int{low}
	for a := 0; a < high; a += step {
		if a > low {
			ends = append(ends, a)
		}
	}
	found := map[made]bool{}
	for i, end := range ends {
		next := high
		if i+1 < len(ends) {
			next = ends[i+1]
		}
		for _, a := range []int{end, (end + next) / 2} {
			for x := range multiples(step, a, m) {
				for n := range p.Factor.Den {
					found[makeTile(index, p.Factor, a, x, m, n)] = true
				}
			}
		}
	}
	var list []made
	for t := range found {
		list = append(list, t)
	}
	return list
}

// multiples returns the numbers below m that are a multiple of step, or are one when a is added.
func multiples(step, a, m int) map[int]bool {
	all := map[int]bool{}
	for x := 0; x < m; x += step {
		all[x] = true
		all[(x+step-a%step)%m] = true
	}
	return all
}

// coloured returns the tiles with the colours that stand for their pieces and carries, and the carries of these colours.
func coloured(l []api.Piece) ([]api.Tile, []*big.Rat) {
	list := allMade(l)
	carry := func(piece, part int) *big.Rat { return big.NewRat(int64(part), int64(l[piece].Factor.Den)) }
	var sides [][2]int
	for _, t := range list {
		sides = append(sides, [2]int{t.piece, t.west}, [2]int{t.piece, t.east})
	}
	slices.SortFunc(sides, func(s, t [2]int) int {
		return cmp.Or(s[0]-t[0], carry(s[0], s[1]).Cmp(carry(t[0], t[1])))
	})
	sides = slices.Compact(sides)
	var set []api.Tile
	for _, t := range list {
		west, east := [2]int{t.piece, t.west}, [2]int{t.piece, t.east}
		set = append(set, api.Tile{N: t.north, E: slices.Index(sides, east), S: t.south, W: slices.Index(sides, west)})
	}
	var carries []*big.Rat
	for _, s := range sides {
		carries = append(carries, carry(s[0], s[1]))
	}
	return set, carries
}

// isClosed tries all multiples of 1/g in each piece, where g is such that all numbers are multiples of which the product is an end.
func isClosed(l []api.Piece) bool {
	g := 1
	for _, p := range l {
		for _, d := range []int{p.Low.Den, p.High.Den, p.Factor.Num} {
			g *= d / divisor(g, d)
		}
	}
	g *= g
	for _, p := range l {
		for i := p.Low.Num * (g / p.Low.Den); i < p.High.Num*(g/p.High.Den); i++ {
			if !slices.ContainsFunc(l, func(q api.Piece) bool { return partIsIn(p.Factor.Num*i, p.Factor.Den*g, q) }) {
				return false
			}
		}
	}
	return true
}

func partIsIn(num, den int, p api.Piece) bool {
	return num*p.Low.Den >= p.Low.Num*den && num*p.High.Den < p.High.Num*den
}

// powers returns the exponents of 2, 3, 5, 7 and 11 in a number from 1 to 12.
func powers(n int) [5]int {
	return [...][5]int{
		2: {1, 0, 0, 0, 0}, 3: {0, 1, 0, 0, 0}, 4: {2, 0, 0, 0, 0}, 5: {0, 0, 1, 0, 0}, 6: {1, 1, 0, 0, 0}, 7: {0, 0, 0, 1, 0},
		8: {3, 0, 0, 0, 0}, 9: {0, 2, 0, 0, 0}, 10: {1, 0, 1, 0, 0}, 11: {0, 0, 0, 0, 1}, 12: {2, 1, 0, 0, 0},
	}[n]
}

// growth returns the primes of a system and its logs, if there are any.
func growth(l []api.Piece) ([]int, []int, bool) {
	var primes, places []int
	for i, prime := range []int{2, 3, 5, 7, 11} {
		if slices.ContainsFunc(l, func(p api.Piece) bool { return powers(p.Factor.Num)[i]+powers(p.Factor.Den)[i] > 0 }) {
			primes = append(primes, prime)
			places = append(places, i)
		}
	}
	logs, ok := tryLogs(l, places, nil)
	return primes, logs, ok
}

// tryLogs returns the first list of logs that begins with some, if there is one.
func tryLogs(l []api.Piece, places, some []int) ([]int, bool) {
	if len(some) == len(places) {
		return some, !slices.ContainsFunc(l, func(p api.Piece) bool { return logOf(p.Factor, places, some) <= 0 })
	}
	for log := -3; log <= 3; log++ {
		if logs, ok := tryLogs(l, places, append(slices.Clone(some), log)); ok {
			return logs, true
		}
	}
	return nil, false
}

func logOf(f api.Frac, places, logs []int) int {
	total := 0
	for i, place := range places {
		total += logs[i] * (powers(f.Num)[place] - powers(f.Den)[place])
	}
	return total
}

// integer returns the integer part of c times a.
func integer(c int, a *big.Rat) int {
	r := new(big.Rat).Mul(a, big.NewRat(int64(c), 1))
	return int(new(big.Int).Div(r.Num(), r.Denom()).Int64())
}

func digit(c int, a *big.Rat) int { return integer(c+1, a) - integer(c, a) }

func isLong(a *big.Rat) bool {
	most := new(big.Int).Lsh(big.NewInt(1), 60)
	return a.Num().CmpAbs(most) > 0 || a.Denom().Cmp(most) > 0
}

// follow returns the first numbers of the orbit of x, up to one that is in no piece, or is too long, or to the last one of `height` numbers, and the number after it.
func follow(l []api.Piece, x api.Frac, height int) ([]*big.Rat, api.Errno) {
	list := []*big.Rat{rational(x)}
	for i := range height {
		a := list[i]
		piece := firstPiece(l, a)
		if piece < 0 {
			return list, api.ErrNone
		}
		if isLong(a) {
			return list, api.ErrSize
		}
		list = append(list, new(big.Rat).Mul(a, rational(l[piece].Factor)))
	}
	return list, api.OK
}

// slowOrbit returns the cells of the orbit of x, and the error for its numbers.
func slowOrbit(l []api.Piece, x api.Frac, width, height int) ([]int, api.Errno) {
	list, e := follow(l, x, height)
	if e != api.OK {
		return nil, e
	}
	type short struct{ piece, south, north, west int }
	indices := map[short]int{}
	for i, t := range allMade(l) {
		indices[short{t.piece, t.south, t.north, t.west}] = i
	}
	var cells []int
	for y := range height {
		a, next := list[y], list[y+1]
		piece := firstPiece(l, a)
		f := l[piece].Factor
		for c := range width {
			west := f.Num*integer(c, a) - f.Den*integer(c, next)
			i, ok := indices[short{piece, digit(c, a), digit(c, next), west}]
			if !ok {
				i = -1
			}
			cells = append(cells, i)
		}
	}
	return cells, api.OK
}
