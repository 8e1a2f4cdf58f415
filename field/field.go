// Package field: numbers by a prime: see doc/01-field.md.
package field

import (
	"math/bits"

	"tallystick/api"
)

// width is how many bits api.P has.
const width = 61

// Norm: P3: 2^61 is 1, so the bits from there on count as a number of their own.
// One subtraction is enough: the two pieces together are at most P + 7.
func Norm(a uint64) uint64 {
	r := a&api.P + a>>width
	if r >= api.P {
		r -= api.P
	}
	return r
}

// Add: P3. The rests are taken first, so that the sum stays within 64 bits.
func Add(a, b uint64) uint64 {
	return Norm(Norm(a) + Norm(b))
}

// Sub: P3. P is added, so that the difference never falls below 0.
func Sub(a, b uint64) uint64 {
	return Norm(Norm(a) + api.P - Norm(b))
}

// Mul: P3. The product of two rests has at most 122 bits, so both pieces of it
// have at most 61, and their sum stays within 64.
func Mul(a, b uint64) uint64 {
	hi, lo := bits.Mul64(Norm(a), Norm(b))
	return Norm(lo&api.P + (hi<<(64-width) | lo>>width))
}

// Pow: P3. n counts, it is not reckoned with: its rest by P is not taken.
func Pow(a, n uint64) uint64 {
	r := uint64(1)
	for ; n > 0; n >>= 1 {
		if n&1 == 1 {
			r = Mul(r, a)
		}
		a = Mul(a, a)
	}
	return r
}

// Inv: P3. P is a prime, so the power P - 1 of a number that isn't 0 is 1
// (Fermat), and the power one below it is what a is to be multiplied by.
func Inv(a uint64) (uint64, api.Errno) {
	if Norm(a) == 0 {
		return 0, api.ErrArg
	}
	return Pow(a, api.P-2), api.OK
}
