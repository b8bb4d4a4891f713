// Package field: the numbers 0 to 65535 as polynomials over the two-element
// field, and the curves that go through given values.
package field

// reduction is what x^16 is worth: the modulus without its highest bit.
const reduction uint16 = 1<<12 | 1<<3 | 1<<1 | 1

// Times multiplies two numbers of the field.
func Times(a uint16, b uint16) uint16 {
	product := uint16(0)
	for ; b > 0; b >>= 1 {
		if b&1 == 1 {
			product ^= a
		}
		a = timesX(a)
	}
	return product
}

// timesX multiplies a number by the polynomial x.
func timesX(a uint16) uint16 {
	if a>>15 == 1 {
		return a<<1 ^ reduction
	}
	return a << 1
}

// Inverse answers the number whose product with a is 1, and 0 for 0, so that
// it has no case to refuse.
func Inverse(a uint16) uint16 {
	// Each number but 0 has its 65535th power 1, so the 65534th is the inverse:
	// the product of the powers 2, 4, 8 up to 32768.
	power, inverse := a, uint16(1)
	for range 15 {
		power = Times(power, power)
		inverse = Times(inverse, power)
	}
	return inverse
}
