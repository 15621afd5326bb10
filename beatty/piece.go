package beatty

import "groutwork/api"

func isFraction(f api.Frac) bool {
	return 1 <= f.Den && f.Den <= api.MaxPart && -api.MaxPart <= f.Num && f.Num <= api.MaxPart
}

// isPiece reports whether a piece is valid.
func isPiece(p api.Piece) bool {
	if !isFactor(p.Factor) || !isEnd(p.Low) || !isEnd(p.High) {
		return false
	}
	return toNumber(p.Low).less(toNumber(p.High)) && p.High.Num <= api.MaxFactor*p.High.Den
}

func isFactor(f api.Frac) bool {
	return 1 <= f.Num && f.Num <= api.MaxFactor && 1 <= f.Den && f.Den <= api.MaxFactor && divisor(f.Num, f.Den) == 1
}

// isEnd reports whether a fraction is valid, not negative, and fine enough for Low or High.
func isEnd(f api.Frac) bool {
	return isFraction(f) && f.Num >= 0 && f.Den <= api.MaxLow
}

// pieceOf returns the index of the first piece that a number is in, or -1.
func pieceOf(l []api.Piece, a number) int {
	for i, p := range l {
		if a.isIn(p) {
			return i
		}
	}
	return -1
}

// covers reports whether each number from low on that is less than high is in a piece. It goes from a number to the High of a piece that this is in, never back to the same piece.
func covers(l []api.Piece, low, high number) bool {
	for low.less(high) {
		piece := pieceOf(l, low)
		if piece < 0 {
			return false
		}
		low = toNumber(l[piece].High)
	}
	return true
}
