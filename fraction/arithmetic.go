package fraction

import (
	"barscan/api"
	"barscan/bigint"
)

// apply checks the arguments of an operation, and does it from the first fraction to the last one.
func apply(operation func(a, b api.Frac) (api.Frac, api.Errno), list ...api.Frac) (api.Frac, api.Errno) {
	if !allValid(list...) {
		return api.Frac{}, api.ErrArg
	}
	result, e := list[0], api.OK
	for _, x := range list[1:] {
		if result, e = operation(result, x); e != api.OK {
			return api.Frac{}, e
		}
	}
	return result, api.OK
}

// allValid reports whether all fractions are in normal form.
func allValid(list ...api.Frac) bool {
	for _, x := range list {
		if !Valid(x) {
			return false
		}
	}
	return true
}

// plus returns a + b without computing an integer that is too long, unless the result is.
//
// With g as the greatest common divisor of the denominators, which are g*x and g*y, the sum is (a.Num*y + b.Num*x) / (g*x*y). The numerator has no divisor in common with x or y, so that only what it shares with g is to be divided out.
func plus(a, b api.Frac) (api.Frac, api.Errno) {
	g := divisor(a.Den, b.Den)
	x, y := quotient(a.Den, g), quotient(b.Den, g)
	left, right := divideProduct(a.Num, y, g), divideProduct(b.Num, x, g)
	// The sum of the rests could be too long, and its difference from g is not.
	missing, _ := bigint.Sub(g, right.rest)
	more, _ := bigint.Sub(left.rest, missing)
	shared := divisor(g, more)
	den, e := bigint.Mul(x, quotient(b.Den, shared))
	if e != api.OK {
		return api.Frac{}, e
	}
	num := total(sharedOut(a.Num, y, b.Num, x, shared)...)
	if !bigint.Valid(num) {
		return api.Frac{}, api.ErrLong
	}
	return api.Frac{Num: num, Den: den}, api.OK
}

// minus returns a - b.
func minus(a, b api.Frac) (api.Frac, api.Errno) {
	return plus(a, opposite(b))
}

// times returns a * b.
func times(a, b api.Frac) (api.Frac, api.Errno) {
	// Without the divisors that they share, the factors give the lowest terms at once, so that nothing longer than the result is computed.
	g, h := divisor(a.Num, b.Den), divisor(b.Num, a.Den)
	num, e := bigint.Mul(quotient(a.Num, g), quotient(b.Num, h))
	if e != api.OK {
		return api.Frac{}, e
	}
	den, e := bigint.Mul(quotient(a.Den, h), quotient(b.Den, g))
	return api.Frac{Num: num, Den: den}, e
}

// over returns a / b.
func over(a, b api.Frac) (api.Frac, api.Errno) {
	switch sign(b.Num) {
	case 0:
		return api.Frac{}, api.ErrZero
	case 1:
		return times(a, api.Frac{Num: b.Den, Den: b.Num})
	}
	return times(a, api.Frac{Num: bigint.Neg(b.Den), Den: bigint.Neg(b.Num)})
}

// sharedOut returns products whose sum is (m*y + n*x) / shared, which is an integer.
func sharedOut(m, y, n, x, shared api.Int) []product {
	left, right := divideProduct(m, y, shared), divideProduct(n, x, shared)
	one := bigint.FromInt(1)
	list := []product{{left.whole, y}, {right.whole, x}, {left.part, one}, {right.part, one}}
	if sign(left.rest) != 0 {
		// Both rests are less than shared, and their sum is a multiple of it, so that it is shared itself.
		list = append(list, product{one, one})
	}
	return list
}

// ratio is the quotient of n*y and a divisor, which is whole*y + part, and the rest.
type ratio struct {
	whole, part, rest api.Int
}

// divideProduct divides n*y by g. It computes nothing that is longer than n or g*y.
func divideProduct(n, y, g api.Int) ratio {
	whole, low, _ := bigint.DivMod(n, g)
	below, _ := bigint.Mul(low, y)
	part, rest, _ := bigint.DivMod(below, g)
	return ratio{whole: whole, part: part, rest: rest}
}

// lowest returns num/den in normal form, where den is not 0.
func lowest(num, den api.Int) api.Frac {
	by := divisor(num, den)
	if den.Neg {
		by = bigint.Neg(by)
	}
	return api.Frac{Num: quotient(num, by), Den: quotient(den, by)}
}

// opposite returns -x.
func opposite(x api.Frac) api.Frac {
	return api.Frac{Num: bigint.Neg(x.Num), Den: x.Den}
}

// divisor returns the greatest common divisor of two valid integers.
func divisor(a, b api.Int) api.Int {
	g, _ := bigint.GCD(a, b)
	return g
}

// quotient returns the floor of a / b for valid integers, of which b is not 0.
func quotient(a, b api.Int) api.Int {
	q, _, _ := bigint.DivMod(a, b)
	return q
}

// sign returns -1, 0 or 1, as x is negative, 0, or positive.
func sign(x api.Int) int {
	switch {
	case x.Neg:
		return -1
	case len(x.Mag) == 0:
		return 0
	}
	return 1
}
