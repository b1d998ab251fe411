package fraction

import (
	"barscan/api"
	"barscan/bigint"
)

// Simplest returns the fraction with the smallest denominator between two fractions, bounds included.
func Simplest(lo, hi api.Frac) (api.Frac, api.Errno) {
	order, e := Cmp(lo, hi)
	if e != api.OK {
		return api.Frac{}, e
	}
	if order > 0 {
		return api.Frac{}, api.ErrRange
	}
	switch {
	case sign(lo.Num) > 0:
		return simplestPositive(lo, hi), api.OK
	case sign(hi.Num) < 0:
		return opposite(simplestPositive(opposite(hi), opposite(lo))), api.OK
	}
	return Of(0, 1)
}

// simplestPositive returns the simplest fraction from lo to hi, which are positive. The fractions of an interval without an integer have the same whole part w, and are w plus the reciprocals of those of another interval, of which the simplest one gives the simplest one; so the terms of a continued fraction are found.
func simplestPositive(lo, hi api.Frac) api.Frac {
	one := bigint.FromInt(1)
	num, den := recent{now: one}, recent{before: one}
	for {
		low, lowRest, _ := bigint.DivMod(lo.Num, lo.Den)
		high, highRest, _ := bigint.DivMod(hi.Num, hi.Den)
		if sign(lowRest) == 0 {
			return api.Frac{Num: num.next(low), Den: den.next(low)}
		}
		if bigint.Cmp(low, high) < 0 {
			above, _ := bigint.Add(low, one)
			return api.Frac{Num: num.next(above), Den: den.next(above)}
		}
		num = recent{now: num.next(low), before: num.now}
		den = recent{now: den.next(low), before: den.now}
		lo, hi = api.Frac{Num: hi.Den, Den: highRest}, api.Frac{Num: lo.Den, Den: lowRest}
	}
}

// recent has the last two numerators, or denominators, of the fractions that the first terms of a continued fraction make.
type recent struct {
	now, before api.Int
}

// next returns the numerator or denominator with one more term of the continued fraction.
func (r recent) next(term api.Int) api.Int {
	both, _ := bigint.Mul(term, r.now)
	sum, _ := bigint.Add(both, r.before)
	return sum
}
