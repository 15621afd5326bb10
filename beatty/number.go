package beatty

import (
	"math/bits"

	"groutwork/api"
)

// number is a number that is not negative, in lowest terms. A factor times a number whose parts are at most MaxLong is a number again: its parts are at most 12 * 2^60, which is less than 2^64.
type number struct {
	num, den uint64
}

// toNumber returns a fraction that is valid and not negative as a number.
func toNumber(f api.Frac) number {
	d := divisor(f.Num, f.Den)
	return number{num: uint64(f.Num / d), den: uint64(f.Den / d)}
}

// times returns the product with a factor. The number may not be long.
func (a number) times(f api.Frac) number {
	num, den := uint64(f.Num), uint64(f.Den)
	across, down := divisor(a.num, den), divisor(num, a.den)
	return number{num: (a.num / across) * (num / down), den: (a.den / down) * (den / across)}
}

func (a number) isLong() bool { return a.num > api.MaxLong || a.den > api.MaxLong }

func (a number) less(b number) bool {
	leftHigh, leftLow := bits.Mul64(a.num, b.den)
	rightHigh, rightLow := bits.Mul64(b.num, a.den)
	return leftHigh < rightHigh || leftHigh == rightHigh && leftLow < rightLow
}

func (a number) isIn(p api.Piece) bool {
	return !a.less(toNumber(p.Low)) && a.less(toNumber(p.High))
}

// multiple returns the integer part of c times the number, for a c that is not negative. It has to be less than 2^63: then the division does not overflow.
func (a number) multiple(c int) int {
	high, low := bits.Mul64(uint64(c), a.num)
	part, _ := bits.Div64(high, low, a.den)
	return int(part)
}

// divisor returns the greatest common divisor of two numbers that are not negative, and not both 0.
func divisor[T int | uint64](a, b T) T {
	for a > 0 {
		a, b = b%a, a
	}
	return b
}
