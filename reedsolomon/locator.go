package reedsolomon

import "barscan/polynomial"

// register is the state of the algorithm of Berlekamp and Massey: the shortest linear recurrence of the syndromes so far, and the previous one that was shorter.
type register struct {
	tables
	now, before []int // C and B
	length      int   // L
	shift       int   // m
	last        int   // b
}

// locator returns the polynomial that the algorithm finds for syndromes.
func (t tables) locator(syndromes []int) []int {
	r := register{tables: t, now: []int{1}, before: []int{1}, shift: 1, last: 1}
	for n := range syndromes {
		r.read(syndromes[:n+1])
	}
	return polynomial.Trim(r.now)
}

// read changes the recurrence so that it holds for the last syndrome, too.
func (r *register) read(syndromes []int) {
	n := len(syndromes) - 1
	missing := r.discrepancy(syndromes)
	switch {
	case missing == 0:
		r.shift++
	case 2*r.length <= n:
		previous := r.now
		r.now = r.reduced(missing)
		r.before, r.length, r.last, r.shift = previous, n+1-r.length, missing, 1
	default:
		r.now = r.reduced(missing)
		r.shift++
	}
}

// discrepancy returns the sum that the recurrence makes 0, at the last syndrome.
func (r *register) discrepancy(syndromes []int) int {
	d, n := 0, len(syndromes)-1
	for i, c := range r.now {
		d = r.plus(d, r.times(c, syndromes[n-i]))
	}
	return d
}

// reduced returns C - (missing / b) * x^m * B.
func (r *register) reduced(missing int) []int {
	by := r.over(missing, r.last)
	out := make([]int, max(len(r.now), r.shift+len(r.before)))
	copy(out, r.now)
	for i, c := range r.before {
		out[r.shift+i] = r.minus(out[r.shift+i], r.times(by, c))
	}
	return out
}
