package fraction

import (
	"slices"

	"barscan/api"
	"barscan/bigint"
)

// partLimbs is the number of limbs of a part of an integer. The products of parts are so short that many of them can be added.
const partLimbs = api.MaxLimbs / 4

// product is the product of two valid integers, which may be too long for package bigint.
type product [2]api.Int

// total returns the sum of products, which may be too long for package bigint.
func total(list ...product) api.Int {
	sum := make([]api.Int, 1)
	for _, p := range list {
		sum = addProduct(sum, p)
	}
	carry(sum)
	neg := sum[len(sum)-1].Neg
	if neg {
		for i, part := range sum {
			sum[i] = bigint.Neg(part)
		}
		carry(sum)
	}
	return join(neg, sum)
}

// addProduct adds the products of the parts of two integers to the parts of a sum.
func addProduct(sum []api.Int, p product) []api.Int {
	right := parts(p[1])
	for i, x := range parts(p[0]) {
		for j, y := range right {
			if i+j == len(sum) {
				sum = append(sum, api.Int{})
			}
			both, _ := bigint.Mul(x, y)
			sum[i+j], _ = bigint.Add(sum[i+j], both)
		}
	}
	return sum
}

// parts returns the parts of an integer in the base 2^(32*partLimbs), the least significant first. All of them have its sign.
func parts(x api.Int) []api.Int {
	var out []api.Int
	for limbs := range slices.Chunk(x.Mag, partLimbs) {
		out = append(out, integer(x.Neg, limbs))
	}
	return out
}

// carry makes all parts of a sum digits from 0 on, but the last one, which gets the sign of the sum.
func carry(sum []api.Int) {
	for i := range len(sum) - 1 {
		more, digit, _ := bigint.DivMod(sum[i], partBase())
		sum[i] = digit
		sum[i+1], _ = bigint.Add(sum[i+1], more)
	}
}

// partBase returns the base of the parts.
func partBase() api.Int {
	return integer(false, append(make([]uint32, partLimbs), 1))
}

// join returns the integer with a sign and parts that are not negative.
func join(neg bool, list []api.Int) api.Int {
	var limbs []uint32
	for i, part := range list {
		limbs = append(limbs, make([]uint32, i*partLimbs-len(limbs))...)
		limbs = append(limbs, part.Mag...)
	}
	return integer(neg, limbs)
}

// integer returns the integer with a sign and limbs, which may have zeros at the end.
func integer(neg bool, limbs []uint32) api.Int {
	n := len(limbs)
	for n > 0 && limbs[n-1] == 0 {
		n--
	}
	return api.Int{Neg: neg && n > 0, Mag: limbs[:n]}
}
