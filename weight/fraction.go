package weight

import "groutwork/api"

// fraction is a number. In lowest terms, equal numbers are equal values.
type fraction api.Frac

func (f fraction) isValid() bool {
	return 1 <= f.Den && f.Den <= api.MaxPart && -api.MaxPart <= f.Num && f.Num <= api.MaxPart
}

func (f fraction) isValue() bool { return f.isValid() && f.Num >= 0 }

func (f fraction) isFactor() bool { return f.isValid() && f.Num > 0 }

// lowest returns a fraction in lowest terms.
func lowest(f api.Frac) fraction { return fraction(f).reduced() }

func (f fraction) reduced() fraction {
	d := divisor(f.Num, f.Den)
	return fraction{Num: f.Num / d, Den: f.Den / d}
}

// times returns the product in lowest terms.
func (f fraction) times(g fraction) fraction {
	return fraction{Num: f.Num * g.Num, Den: f.Den * g.Den}.reduced()
}

// plus returns the sum in lowest terms. A valid fraction can be added to the product of two others: before it is reduced, the sum has parts up to 2 * MaxPart^3, which is less than 2^61.
func (f fraction) plus(g fraction) fraction {
	return fraction{Num: f.Num*g.Den + g.Num*f.Den, Den: f.Den * g.Den}.reduced()
}

// sum returns the sum of up to MaxCells valid fractions in lowest terms, unless it is not valid or their least common denominator is greater than MaxPart: up to there the sum cannot overflow.
func sum(list []fraction) (fraction, bool) {
	common := 1
	for _, f := range list {
		common *= f.Den / divisor(common, f.Den)
		if common > api.MaxPart {
			return fraction{}, false
		}
	}
	total := 0
	for _, f := range list {
		total += f.Num * (common / f.Den)
	}
	all := fraction{Num: total, Den: common}.reduced()
	if !all.isValid() {
		return fraction{}, false
	}
	return all, true
}

// divisor returns the greatest common divisor of two numbers, of which b is positive; it is positive, too.
func divisor(a, b int) int {
	if a < 0 {
		a = -a
	}
	for a > 0 {
		a, b = b%a, a
	}
	return b
}
