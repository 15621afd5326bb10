package beatty

import (
	"cmp"
	"slices"

	"groutwork/api"
)

// brick is a tile by what determines it: the index of its piece, its colours to the south and to the north, and its carry to the west, which is a multiple of 1/Den of the factor.
type brick struct {
	piece, south, north, west int
}

// side is what a colour to the west or to the east stands for: the index of a piece and a carry, as in a brick.
type side struct {
	piece, carry int
}

func (b brick) westSide() side { return side{piece: b.piece, carry: b.west} }

// eastSide follows from the rest: the factor times the colour to the south plus the carry to the west is the colour to the north plus the carry to the east.
func (b brick) eastSide(f api.Frac) side {
	return side{piece: b.piece, carry: f.Num*b.south + b.west - f.Den*b.north}
}

func compareBricks(a, b brick) int {
	return cmp.Or(cmp.Compare(a.piece, b.piece), cmp.Compare(a.south, b.south), cmp.Compare(a.north, b.north), cmp.Compare(a.west, b.west))
}

func compareSides(a, b side) int {
	return cmp.Or(cmp.Compare(a.piece, b.piece), cmp.Compare(a.carry, b.carry))
}

// place is the numbers from low on that are less than high (counted in parts of 1/Num of a factor), which have the same integer part (whole), and whose products with the factor have the same one, too (times).
type place struct {
	whole, times, low, high int
}

// places returns the places of the numbers from 0 on that are less than end, rising.
func places(f api.Frac, end int) []place {
	var list []place
	for low := 0; low < end*f.Num; {
		whole, times := low/f.Num, low/f.Den
		high := min((whole+1)*f.Num, (times+1)*f.Den)
		list = append(list, place{whole: whole, times: times, low: low, high: high})
		low = high
	}
	return list
}

// leads reports whether a number of a piece, added to some number of one place, gives one of another place. As neither place has its end, the differences of their numbers are those between two bounds, without the bounds.
func leads(p api.Piece, from, to place) bool {
	least, greatest := to.low-from.high, to.high-from.low
	return least*p.High.Den < p.High.Num*p.Factor.Num && p.Low.Num*p.Factor.Num < greatest*p.Low.Den
}

// bricksOf returns the tiles of a piece, sorted: n + x is in a place before Den, and n + x + a in one before Den + MaxFactor. As the factor is in lowest terms, the places before Den have different carries, and so no tile is found twice.
func bricksOf(index int, p api.Piece) []brick {
	var list []brick
	all := places(p.Factor, p.Factor.Den+api.MaxFactor)
	for _, from := range all {
		if from.whole >= p.Factor.Den {
			break
		}
		for _, to := range all {
			if leads(p, from, to) {
				list = append(list, brick{
					piece: index,
					south: to.whole - from.whole,
					north: to.times - from.times,
					west:  p.Factor.Num*from.whole - p.Factor.Den*from.times,
				})
			}
		}
	}
	slices.SortFunc(list, compareBricks)
	return list
}
