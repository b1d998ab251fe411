package bigint_test

import (
	"slices"
	"testing"

	"barscan/api"
	"barscan/bigint"
)

// few returns integers of many kinds that are short enough to be combined three at a time.
func few() []api.Int {
	list := []api.Int{{}}
	for _, s := range []string{"1", "2", "3", "10", "4294967295", "4294967296", "18446744073709551615", "340282366920938463463374607431768211457", "123456789012345678901234567890"} {
		list = append(list, number(s), number("-"+s))
	}
	r := newRand()
	for n := range 8 {
		list = append(list, randomInt(r, n))
	}
	return append(list, largest(), bigint.Neg(largest()))
}

// operation is a function of two integers, applied to results that may be errors.
func operation(f func(a, b api.Int) (api.Int, api.Errno)) func(a, b []api.Int) []api.Int {
	return func(a, b []api.Int) []api.Int {
		if len(a) == 0 || len(b) == 0 {
			return nil
		}
		x, e := f(a[0], b[0])
		if e != api.OK {
			return nil
		}
		return []api.Int{x}
	}
}

// agree reports whether two results are equal, or one of them is an error.
func agree(a, b []api.Int) bool {
	return len(a) == 0 || len(b) == 0 || same(a[0], b[0])
}

// TestRing checks P2.4.
func TestRing(t *testing.T) {
	add, sub, mul := operation(bigint.Add), operation(bigint.Sub), operation(bigint.Mul)
	zero, one := []api.Int{{}}, []api.Int{{Mag: []uint32{1}}}
	list := few()
	for _, x := range list {
		a := []api.Int{x}
		if !same(add(a, zero)[0], x) || !same(mul(a, one)[0], x) || !same(mul(a, zero)[0], zero[0]) {
			t.Errorf("neutral elements and %v", toBig(x))
		}
		if !same(add(a, []api.Int{bigint.Neg(x)})[0], zero[0]) {
			t.Errorf("%v plus its negative", toBig(x))
		}
		for _, y := range list {
			b := []api.Int{y}
			if !agree(add(a, b), add(b, a)) || !agree(mul(a, b), mul(b, a)) {
				t.Errorf("%v and %v do not commute", toBig(x), toBig(y))
			}
			if len(add(a, b)) != len(add(b, a)) || len(mul(a, b)) != len(mul(b, a)) {
				t.Errorf("%v and %v have different errors", toBig(x), toBig(y))
			}
			minus := add(a, []api.Int{bigint.Neg(y)})
			if !agree(sub(a, b), minus) || len(sub(a, b)) != len(minus) {
				t.Errorf("%v minus %v", toBig(x), toBig(y))
			}
			for _, z := range list {
				c := []api.Int{z}
				if !agree(add(a, add(b, c)), add(add(a, b), c)) || !agree(mul(a, mul(b, c)), mul(mul(a, b), c)) {
					t.Errorf("%v, %v and %v do not associate", toBig(x), toBig(y), toBig(z))
				}
				if !agree(mul(a, add(b, c)), add(mul(a, b), mul(a, c))) {
					t.Errorf("%v does not distribute over %v and %v", toBig(x), toBig(y), toBig(z))
				}
			}
		}
	}
}

// TestOrder checks P2.5.
func TestOrder(t *testing.T) {
	list := few()
	for _, a := range list {
		for _, b := range list {
			c := bigint.Cmp(a, b)
			if c != -bigint.Cmp(b, a) || (c == 0) != same(a, b) {
				t.Errorf("%v and %v: %d", toBig(a), toBig(b), c)
			}
			if bigint.Cmp(bigint.Neg(a), bigint.Neg(b)) != -c {
				t.Errorf("the negatives of %v and %v", toBig(a), toBig(b))
			}
			for _, d := range list {
				if c <= 0 && bigint.Cmp(b, d) <= 0 && bigint.Cmp(a, d) > 0 {
					t.Errorf("%v, %v and %v are not in order", toBig(a), toBig(b), toBig(d))
				}
				x, e := bigint.Add(a, d)
				y, f := bigint.Add(b, d)
				if e == api.OK && f == api.OK && bigint.Cmp(x, y) != c {
					t.Errorf("%v and %v after adding %v", toBig(a), toBig(b), toBig(d))
				}
			}
		}
	}
}

// TestDivision checks P2.6.
func TestDivision(t *testing.T) {
	list := samples()
	for _, a := range list {
		for _, b := range list {
			q, r, e := bigint.DivMod(a, b)
			if e != api.OK {
				continue
			}
			p, e := bigint.Mul(q, b)
			if e != api.OK {
				// Only a quotient that was rounded away from 0 can give such a product.
				continue
			}
			if s, e := bigint.Add(p, r); e != api.OK || !same(s, a) {
				t.Errorf("DivMod of %v and %v", toBig(a), toBig(b))
			}
			if len(r.Mag) > 0 && r.Neg != b.Neg || bigint.Cmp(api.Int{Mag: r.Mag}, api.Int{Mag: b.Mag}) >= 0 {
				t.Errorf("the remainder of %v and %v is %v", toBig(a), toBig(b), toBig(r))
			}
			g, e := bigint.GCD(a, b)
			h, f := bigint.GCD(b, r)
			if e != api.OK || f != api.OK || !same(g, h) || g.Neg {
				t.Errorf("GCD of %v and %v is %v, and with the remainder %v", toBig(a), toBig(b), toBig(g), toBig(h))
			}
			for _, x := range []api.Int{a, b} {
				if _, m, e := bigint.DivMod(x, g); e != api.OK || len(m.Mag) != 0 {
					t.Errorf("%v does not divide %v", toBig(g), toBig(x))
				}
			}
		}
	}
	for _, a := range list {
		for _, p := range [][2]api.Int{{a, {}}, {{}, a}} {
			if g, e := bigint.GCD(p[0], p[1]); e != api.OK || !same(g, api.Int{Mag: a.Mag}) {
				t.Errorf("GCD of %v and 0 is %v, %d", toBig(a), toBig(g), e)
			}
		}
	}
}

// TestPowers checks P2.7.
func TestPowers(t *testing.T) {
	for _, a := range samples() {
		for m := range 12 {
			for n := range 12 {
				x, e := bigint.Pow(a, m+n)
				if e != api.OK {
					continue
				}
				y, f := bigint.Pow(a, m)
				z, g := bigint.Pow(a, n)
				p, h := bigint.Mul(y, z)
				if f != api.OK || g != api.OK || h != api.OK || !same(p, x) {
					t.Errorf("powers %d and %d of %v", m, n, toBig(a))
				}
			}
		}
	}
}

// TestRoundTrips checks P2.8.
func TestRoundTrips(t *testing.T) {
	for _, x := range samples() {
		if s := bigint.Format(x); len(toBig(api.Int{Mag: x.Mag}).String()) <= api.MaxDigits {
			if y, e := bigint.Parse(s); e != api.OK || !same(x, y) {
				t.Errorf("Parse(%s) = %v, %d", s, toBig(y), e)
			}
		}
		for _, base := range bases {
			if l, e := bigint.Digits(x, base); e == api.OK {
				if y, e := bigint.FromDigits(l, base); e != api.OK || !same(x, y) {
					t.Errorf("FromDigits(%v, %d) = %v, %d", l, base, toBig(y), e)
				}
			}
		}
		if n, e := bigint.ToInt(x); e == api.OK && !same(bigint.FromInt(n), x) {
			t.Errorf("FromInt(%d) is not %v", n, toBig(x))
		}
	}
}

// spare returns x with room behind its magnitude that a function must not use.
func spare(x api.Int) api.Int {
	mag := append(slices.Clone(x.Mag), 7, 7, 7, 7)
	return api.Int{Neg: x.Neg, Mag: mag[:len(x.Mag)]}
}

// fill overwrites all the memory of a magnitude.
func fill(x api.Int, limb uint32) {
	mag := x.Mag[:cap(x.Mag)]
	for i := range mag {
		mag[i] = limb
	}
}

// copyOf returns copies of integers.
func copyOf(list []api.Int) []api.Int {
	var out []api.Int
	for _, x := range list {
		out = append(out, api.Int{Neg: x.Neg, Mag: slices.Clone(x.Mag)})
	}
	return out
}

// TestMemory checks rule 4 of the document.
func TestMemory(t *testing.T) {
	two := func(f func(a, b api.Int) (api.Int, api.Errno)) func(a, b api.Int) []api.Int {
		return func(a, b api.Int) []api.Int {
			x, _ := f(a, b)
			return []api.Int{x}
		}
	}
	functions := map[string]func(a, b api.Int) []api.Int{
		"Add":    two(bigint.Add),
		"Sub":    two(bigint.Sub),
		"Mul":    two(bigint.Mul),
		"GCD":    two(bigint.GCD),
		"Neg":    func(a, b api.Int) []api.Int { return []api.Int{bigint.Neg(a)} },
		"DivMod": func(a, b api.Int) []api.Int { q, r, _ := bigint.DivMod(a, b); return []api.Int{q, r} },
		"Pow 0":  func(a, b api.Int) []api.Int { x, _ := bigint.Pow(a, 0); return []api.Int{x} },
		"Pow 1":  func(a, b api.Int) []api.Int { x, _ := bigint.Pow(a, 1); return []api.Int{x} },
		"Pow 2":  func(a, b api.Int) []api.Int { x, _ := bigint.Pow(a, 2); return []api.Int{x} },
		"Format": func(a, b api.Int) []api.Int { bigint.Format(a); return nil },
		"Digits": func(a, b api.Int) []api.Int { bigint.Digits(a, 10); return nil },
		"ToInt":  func(a, b api.Int) []api.Int { bigint.ToInt(a); return nil },
		"Cmp":    func(a, b api.Int) []api.Int { bigint.Cmp(a, b); return nil },
	}
	list := few()
	for name, f := range functions {
		for _, x := range list {
			for _, y := range list {
				checkMemory(t, name, f, x, y)
			}
		}
	}
}

// checkMemory checks that a call changes no argument, and that its results share no memory with the arguments or with each other.
func checkMemory(t *testing.T, name string, f func(a, b api.Int) []api.Int, x, y api.Int) {
	t.Helper()
	a, b := spare(x), spare(y)
	results := f(a, b)
	for _, p := range [][2]api.Int{{a, x}, {b, y}} {
		if whole := p[0].Mag[:cap(p[0].Mag)]; !same(p[0], p[1]) || whole[len(p[1].Mag)] != 7 {
			t.Errorf("%s has changed an argument", name)
		}
	}
	kept := copyOf(results)
	fill(a, 9)
	fill(b, 9)
	for i := range results {
		if !same(results[i], kept[i]) {
			t.Errorf("a result of %s shares memory with an argument", name)
		}
	}
	for i := range results {
		fill(results[i], 11)
		for j := i + 1; j < len(results); j++ {
			if !same(results[j], kept[j]) {
				t.Errorf("two results of %s share memory", name)
			}
		}
	}
}

func TestFromDigitsMemory(t *testing.T) {
	l := []int{1, 2, 3}
	x, _ := bigint.FromDigits(l, 10)
	l[0] = 9
	if !same(x, number("123")) {
		t.Error("the result changes with the argument")
	}
	m, _ := bigint.Digits(x, 10)
	fill(x, 11)
	if !slices.Equal(m, []int{1, 2, 3}) {
		t.Error("the result changes with the argument")
	}
}
