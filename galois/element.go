package galois

import "barscan/api"

// element is an element of a valid field.
type element struct {
	field api.Field
	value int
}

// one returns the element 1 of a field.
func one(f api.Field) element {
	return element{f, 1}
}

// plus returns a + b.
func (a element) plus(b element) element {
	if a.field.Char == 2 {
		return element{a.field, a.value ^ b.value}
	}
	return element{a.field, (a.value + b.value) % a.field.Size}
}

// minus returns a - b.
func (a element) minus(b element) element {
	if a.field.Char == 2 {
		return a.plus(b)
	}
	return element{a.field, (a.value - b.value + a.field.Size) % a.field.Size}
}

// times returns a * b.
func (a element) times(b element) element {
	if a.field.Char == 2 {
		return element{a.field, remainder(multiply(a.value, b.value), a.field.Poly)}
	}
	return element{a.field, a.value * b.value % a.field.Size}
}

// power returns the n-th power of an element other than 0.
func (a element) power(n int) element {
	// The powers repeat with this period, and the remainder of a negative number may be negative.
	period := a.field.Size - 1
	n = (n%period + period) % period
	result := one(a.field)
	for ; n > 0; n /= 2 {
		if n%2 == 1 {
			result = result.times(a)
		}
		a = a.times(a)
	}
	return result
}

// order returns the order of an element other than 0.
func (a element) order() int {
	n := a.field.Size - 1
	// The n-th power is 1 exactly if n is a multiple of the order, so that each prime factor is divided out as often as it remains 1.
	for rest, p := n, 2; rest > 1; p++ {
		for rest%p == 0 {
			rest /= p
			if a.power(n/p) == one(a.field) {
				n /= p
			}
		}
	}
	return n
}

// generator returns the least element whose powers are all elements but 0.
func generator(f api.Field) element {
	a := one(f)
	for a.order() != f.Size-1 {
		a.value++
	}
	return a
}

// logarithm returns the least n from 0 on for which the n-th power of a generator is an element other than 0. It finds the element, divided by as many long steps as necessary, in a table of the first powers, so that neither the steps nor the table are many.
func (a element) logarithm(generator element) int {
	long := 1
	for long*long < a.field.Size-1 {
		long++
	}
	table := map[element]int{}
	next := one(a.field)
	for n := range long {
		table[next] = n
		next = next.times(generator)
	}
	back := next.power(-1)
	for steps := 0; ; steps++ {
		if n, ok := table[a]; ok {
			return steps*long + n
		}
		a = a.times(back)
	}
}
