package checksum

// The registers before the first byte.
const (
	start32 = 0xffffffff
	start16 = 0xffff
)

// step32 returns what the register of the CRC-32 becomes by one step.
func step32(x uint32) uint32 {
	if x&1 == 1 {
		return x>>1 ^ 0xedb88320
	}
	return x >> 1
}

// step16 returns what the register of the CRC-16 becomes by one step.
func step16(x uint16) uint16 {
	if x>>15 == 1 {
		return x<<1 ^ 0x1021
	}
	return x << 1
}

// table32 returns what the register of the CRC-32 becomes by four steps, for each value of its last four bits when the others are zeros. It is so short because each call makes it anew: what four steps do to the other bits is only a shift, so that two look-ups serve for a byte.
func table32() [16]uint32 {
	var table [16]uint32
	for i := range 16 {
		x := uint32(i)
		for range 4 {
			x = step32(x)
		}
		table[i] = x
	}
	return table
}

// table16 returns what the register of the CRC-16 becomes by four steps, for each value of its first four bits when the others are zeros.
func table16() [16]uint16 {
	var table [16]uint16
	for i := range 16 {
		x := uint16(i) << 12
		for range 4 {
			x = step16(x)
		}
		table[i] = x
	}
	return table
}

// feed32 returns what the register of the CRC-32 becomes by the bytes of p.
func feed32(x uint32, p []byte) uint32 {
	table := table32()
	for _, c := range p {
		x ^= uint32(c)
		x = x>>4 ^ table[x&15]
		x = x>>4 ^ table[x&15]
	}
	return x
}

// feed16 returns what the register of the CRC-16 becomes by the bytes of p.
func feed16(x uint16, p []byte) uint16 {
	table := table16()
	for _, c := range p {
		x ^= uint16(c) << 8
		x = x<<4 ^ table[x>>12]
		x = x<<4 ^ table[x>>12]
	}
	return x
}

// A register of the CRC-32 is a polynomial over GF(2), whose coefficient of x^i is the bit 31 - i, and a step multiplies it by x, modulo the polynomial of the CRC-32. So 8*n steps multiply it by (x^8)^n, which takes few products.

// skip32 returns what the register of the CRC-32 becomes by the steps of n bytes that change nothing else.
func skip32(x uint32, n int) uint32 {
	power := uint32(1) << (31 - 8)
	for ; n > 0; n /= 2 {
		if n%2 == 1 {
			x = multiply32(x, power)
		}
		power = multiply32(power, power)
	}
	return x
}

// multiply32 returns the product of two polynomials modulo the polynomial of the CRC-32.
func multiply32(x, y uint32) uint32 {
	product := uint32(0)
	for i := range 32 {
		if x>>(31-i)&1 == 1 {
			product ^= y
		}
		y = step32(y)
	}
	return product
}
