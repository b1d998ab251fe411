package reedsolomon

import (
	"slices"

	"barscan/api"
	"barscan/polynomial"
)

// decoder corrects a word in steps. A step returns false if no codeword is within the capacity.
type decoder struct {
	tables
	code      api.Code
	word      []int
	erased    []int // ascending, each once
	syndromes []int
	// The polynomials whose roots are the reciprocals of the locations of the erased symbols, and of the other wrong ones.
	erasures, errors []int
	suspects         []int // the indexes of both
}

func newDecoder(c api.Code, word, erased []int) *decoder {
	return &decoder{
		tables: newTables(c.Field),
		code:   c,
		word:   slices.Clone(word),
		erased: slices.Compact(slices.Sorted(slices.Values(erased))),
	}
}

// location returns the exponent of the location of a symbol, which is the power of the generator with the degree that the symbol has.
func (d *decoder) location(index int) int {
	return len(d.word) - 1 - index
}

// measure computes the syndromes.
func (d *decoder) measure() bool {
	d.syndromes = d.tables.syndromes(d.code, d.word)
	return true
}

// locate computes the polynomials of the locations.
func (d *decoder) locate() bool {
	spare := d.code.Parity - len(d.erased)
	if spare < 0 {
		return false
	}
	locations := make([]int, len(d.erased))
	for i, index := range d.erased {
		locations[i] = d.power(d.location(index))
	}
	// The product of x - r has the coefficients of the product of 1 - r*x in the opposite order.
	p, _ := polynomial.FromRoots(d.field, locations)
	d.erasures = reversed(p)
	// Times the polynomial of the erasures, the syndromes no longer depend on erased symbols, but for the first of them.
	d.errors = d.locator(d.product(d.syndromes, d.erasures, d.code.Parity)[len(d.erased):])
	return 2*d.count() <= spare
}

// count returns the number of errors.
func (d *decoder) count() int {
	return len(d.errors) - 1
}

// search finds the wrong symbols.
func (d *decoder) search() bool {
	d.suspects = slices.Clone(d.erased)
	for index := range d.word {
		_, isErased := slices.BinarySearch(d.erased, index)
		if !isErased && d.value(d.errors, d.power(-d.location(index))) == 0 {
			d.suspects = append(d.suspects, index)
		}
	}
	return len(d.suspects)-len(d.erased) == d.count()
}

// correct changes the suspects by Forney's formula: with the locations X and the polynomial p of all of them, the error at X is -X^(1-First) * q(1/X) / p'(1/X), where q is the product of p and the syndromes up to their number.
func (d *decoder) correct() bool {
	both := d.product(d.errors, d.erasures, len(d.suspects)+1)
	evaluator := d.product(d.syndromes, both, d.code.Parity)
	derivative, _ := polynomial.Derive(d.field, both)
	for _, index := range d.suspects {
		location := d.location(index)
		reciprocal := d.power(-location)
		opposite := d.over(d.value(evaluator, reciprocal), d.value(derivative, reciprocal))
		change := d.times(opposite, d.power((1-d.code.First)*location))
		d.word[index] = d.plus(d.word[index], change)
	}
	return true
}

// confirm reports whether the word is a codeword now. It may not be one if there were too many errors.
func (d *decoder) confirm() bool {
	d.measure()
	return !slices.ContainsFunc(d.syndromes, func(s int) bool { return s != 0 })
}
