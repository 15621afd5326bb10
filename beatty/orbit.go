package beatty

import "groutwork/api"

// cells returns the cells of the pattern of an orbit, or the error that is due for one of its numbers.
func (k kit) cells(l []api.Piece, x api.Frac, width, height int) ([]int, api.Errno) {
	// A number is not negative, nor is any in a piece.
	if x.Num < 0 {
		return nil, api.ErrNone
	}
	indices := map[brick]int{}
	for i, b := range k.bricks {
		indices[b] = i
	}
	var cells []int
	a := toNumber(x)
	for range height {
		piece := pieceOf(l, a)
		if piece < 0 {
			return nil, api.ErrNone
		}
		if a.isLong() {
			return nil, api.ErrSize
		}
		next := a.times(l[piece].Factor)
		for c := range width {
			cells = append(cells, indices[brickAt(c, piece, l[piece].Factor, a, next)])
		}
		a = next
	}
	return cells, api.OK
}

// brickAt returns the brick in column c of the row of the number a, which a factor takes to the number next.
func brickAt(c, piece int, f api.Frac, a, next number) brick {
	whole, times := a.multiple(c), next.multiple(c)
	return brick{
		piece: piece,
		south: a.multiple(c+1) - whole,
		north: next.multiple(c+1) - times,
		west:  f.Num*whole - f.Den*times,
	}
}
