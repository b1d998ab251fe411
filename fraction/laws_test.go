package fraction_test

import (
	"math/big"
	"slices"
	"testing"

	"barscan/api"
	"barscan/fraction"
)

// chain is a function of two fractions, applied to results that may be errors.
func chain(f func(a, b api.Frac) (api.Frac, api.Errno)) func(a, b []api.Frac) []api.Frac {
	return func(a, b []api.Frac) []api.Frac {
		if len(a) == 0 || len(b) == 0 {
			return nil
		}
		x, e := f(a[0], b[0])
		if e != api.OK {
			return nil
		}
		return []api.Frac{x}
	}
}

// agree reports whether two results are equal, or one of them is an error.
func agree(a, b []api.Frac) bool {
	return len(a) == 0 || len(b) == 0 || same(a[0], b[0])
}

// TestField checks P3.6: fractions are a field.
func TestField(t *testing.T) {
	add, sub, mul, div := chain(fraction.Add), chain(fraction.Sub), chain(fraction.Mul), chain(fraction.Div)
	zero, one := []api.Frac{frac("0")}, []api.Frac{frac("1")}
	list := few()
	for _, x := range list {
		a := []api.Frac{x}
		if !same(add(a, zero)[0], x) || !same(mul(a, one)[0], x) || !same(mul(a, zero)[0], zero[0]) {
			t.Errorf("neutral elements and %v", ratOf(x))
		}
		for _, y := range list {
			b := []api.Frac{y}
			if !agree(add(a, b), add(b, a)) || !agree(mul(a, b), mul(b, a)) || len(add(a, b)) != len(add(b, a)) || len(mul(a, b)) != len(mul(b, a)) {
				t.Errorf("%v and %v do not commute", ratOf(x), ratOf(y))
			}
			if !agree(add(sub(a, b), b), a) || !agree(mul(div(a, b), b), a) {
				t.Errorf("the difference or the quotient of %v and %v", ratOf(x), ratOf(y))
			}
			for _, z := range list {
				c := []api.Frac{z}
				if !agree(add(a, add(b, c)), add(add(a, b), c)) || !agree(mul(a, mul(b, c)), mul(mul(a, b), c)) {
					t.Errorf("%v, %v and %v do not associate", ratOf(x), ratOf(y), ratOf(z))
				}
				if !agree(mul(a, add(b, c)), add(mul(a, b), mul(a, c))) {
					t.Errorf("%v does not distribute over %v and %v", ratOf(x), ratOf(y), ratOf(z))
				}
			}
		}
	}
}

// order returns the result of Cmp, which must not fail.
func order(t *testing.T, a, b api.Frac) int {
	t.Helper()
	c, e := fraction.Cmp(a, b)
	if e != api.OK {
		t.Fatalf("Cmp of %v and %v is error %d", ratOf(a), ratOf(b), e)
	}
	return c
}

// TestOrder checks P3.6: Cmp is a total order that is compatible with addition.
func TestOrder(t *testing.T) {
	list := few()
	for _, a := range list {
		for _, b := range list {
			c := order(t, a, b)
			if c != -order(t, b, a) || (c == 0) != same(a, b) {
				t.Errorf("%v and %v: %d", ratOf(a), ratOf(b), c)
			}
			for _, d := range list {
				if c <= 0 && order(t, b, d) <= 0 && order(t, a, d) > 0 {
					t.Errorf("%v, %v and %v are not in order", ratOf(a), ratOf(b), ratOf(d))
				}
				x, e := fraction.Add(a, d)
				y, f := fraction.Add(b, d)
				if e == api.OK && f == api.OK && order(t, x, y) != c {
					t.Errorf("%v and %v after adding %v", ratOf(a), ratOf(b), ratOf(d))
				}
			}
		}
	}
}

// TestNearIntegers checks P3.6: the bounds of Floor and Round.
func TestNearIntegers(t *testing.T) {
	half := big.NewRat(1, 2)
	for _, x := range samples() {
		below, _ := fraction.Floor(x)
		rest := new(big.Rat).Sub(ratOf(x), new(big.Rat).SetInt(bigOf(below)))
		if rest.Sign() < 0 || rest.Cmp(big.NewRat(1, 1)) >= 0 {
			t.Errorf("the floor of %v", ratOf(x))
		}
		near, _ := fraction.Round(x)
		distance := new(big.Rat).Sub(ratOf(x), new(big.Rat).SetInt(bigOf(near)))
		if distance.Abs(distance).Cmp(half) > 0 {
			t.Errorf("%v is too far from its rounded value", ratOf(x))
		}
	}
}

// TestRoundTrip checks P3.6: Parse restores what Format returned.
func TestRoundTrip(t *testing.T) {
	most := new(big.Int).Exp(big.NewInt(10), big.NewInt(api.MaxDigits), nil)
	list := samples()
	below := new(big.Int).Sub(most, big.NewInt(1))
	list = append(list, quotientOf(below, big.NewInt(1)), quotientOf(new(big.Int).Neg(below), big.NewInt(7)), quotientOf(big.NewInt(1), below))
	tested := 0
	for _, x := range list {
		if bigOf(x.Num).CmpAbs(most) >= 0 || bigOf(x.Den).CmpAbs(most) >= 0 {
			continue
		}
		tested++
		if y, e := fraction.Parse(fraction.Format(x)); e != api.OK || !same(x, y) {
			t.Errorf("Parse does not restore %v", ratOf(x))
		}
	}
	if tested < 40 {
		t.Errorf("only %d fractions are short enough", tested)
	}
}

// TestNoSimplerFraction checks P3.6: no fraction in an interval has a smaller denominator than Simplest, nor, with its denominator, a smaller numerator.
func TestNoSimplerFraction(t *testing.T) {
	list := smallFractions(6)
	for _, lo := range list {
		for _, hi := range list {
			x, e := fraction.Simplest(fracOf(lo), fracOf(hi))
			if e != api.OK {
				continue
			}
			best := ratOf(x)
			if best.Cmp(lo) < 0 || best.Cmp(hi) > 0 {
				t.Errorf("%v is not from %v to %v", best, lo, hi)
			}
			for _, v := range list {
				if v.Cmp(lo) < 0 || v.Cmp(hi) > 0 {
					continue
				}
				if c := v.Denom().Cmp(best.Denom()); c < 0 || c == 0 && v.Num().CmpAbs(best.Num()) < 0 {
					t.Errorf("from %v to %v, %v is simpler than %v", lo, hi, v, best)
				}
			}
		}
	}
}

// spareInt returns x with room behind its magnitude that a function must not use.
func spareInt(x api.Int) api.Int {
	mag := append(slices.Clone(x.Mag), 7, 7, 7, 7)
	return api.Int{Neg: x.Neg, Mag: mag[:len(x.Mag)]}
}

// fill overwrites all the memory of a magnitude.
func fill(x api.Int, limb uint32) {
	mag := x.Mag[:cap(x.Mag)]
	for i := range mag {
		mag[i] = limb
	}
}

// checkMemory checks that a call changes no argument, and that its results share no memory with the arguments or with each other.
func checkMemory(t *testing.T, name string, f func(list []api.Int) []api.Int, args ...api.Int) {
	t.Helper()
	var list []api.Int
	for _, x := range args {
		list = append(list, spareInt(x))
	}
	results := f(list)
	for i, x := range list {
		if whole := x.Mag[:cap(x.Mag)]; !sameInt(x, args[i]) || whole[len(x.Mag)] != 7 {
			t.Errorf("%s has changed an argument", name)
		}
	}
	var kept []api.Int
	for _, x := range results {
		kept = append(kept, api.Int{Neg: x.Neg, Mag: slices.Clone(x.Mag)})
	}
	for _, x := range list {
		fill(x, 9)
	}
	for i, x := range results {
		if !sameInt(x, kept[i]) {
			t.Errorf("a result of %s shares memory with an argument", name)
		}
	}
	for i, x := range results {
		fill(x, 11)
		for j := i + 1; j < len(results); j++ {
			if !sameInt(results[j], kept[j]) {
				t.Errorf("two results of %s share memory", name)
			}
		}
	}
}

// TestMemory checks P3.7.
func TestMemory(t *testing.T) {
	two := map[string]func(a, b api.Frac) (api.Frac, api.Errno){
		"Add": fraction.Add, "Sub": fraction.Sub, "Mul": fraction.Mul, "Div": fraction.Div, "Simplest": fraction.Simplest,
		"Cmp":    func(a, b api.Frac) (api.Frac, api.Errno) { _, e := fraction.Cmp(a, b); return api.Frac{}, e },
		"Format": func(a, b api.Frac) (api.Frac, api.Errno) { fraction.Format(a); return api.Frac{}, api.OK },
		"New":    func(a, b api.Frac) (api.Frac, api.Errno) { return fraction.New(a.Num, b.Num) },
	}
	one := map[string]func(x api.Frac) (api.Int, api.Errno){"Floor": fraction.Floor, "Round": fraction.Round}
	list := few()
	for _, x := range list {
		for name, f := range one {
			checkMemory(t, name, func(l []api.Int) []api.Int {
				n, _ := f(api.Frac{Num: l[0], Den: l[1]})
				return []api.Int{n}
			}, x.Num, x.Den)
		}
		for _, y := range list {
			for name, f := range two {
				checkMemory(t, name, func(l []api.Int) []api.Int {
					z, _ := f(api.Frac{Num: l[0], Den: l[1]}, api.Frac{Num: l[2], Den: l[3]})
					return []api.Int{z.Num, z.Den}
				}, x.Num, x.Den, y.Num, y.Den)
			}
		}
	}
}

// TestMemoryOfOneArgument checks P3.7 where one integer is used as both arguments.
func TestMemoryOfOneArgument(t *testing.T) {
	for _, v := range []*big.Int{big.NewInt(1), big.NewInt(-12), longest()} {
		checkMemory(t, "New", func(l []api.Int) []api.Int {
			x, _ := fraction.New(l[0], l[0])
			return []api.Int{x.Num, x.Den}
		}, intOf(v))
	}
}
