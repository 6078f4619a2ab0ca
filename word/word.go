// Package word is layer 1: numbers of 32 bits: see shared/doc/01-word.md.
package word

import (
	"math"
	"math/bits"

	"halter/api"
)

// The five bits of a number of steps that count, whatever its sign.
const steps = 31

// Load is the number of one, two or four bytes, the lowest first.
func Load(b []byte) (uint32, error) {
	if !isSize(len(b)) {
		return 0, api.ErrArg
	}
	var v uint32
	for i := range len(b) {
		v |= uint32(b[i]) << (8 * i)
	}
	return v, nil
}

// Store are the lowest bytes of a number, so many.
func Store(v uint32, size int) ([]byte, error) {
	if !isSize(size) {
		return nil, api.ErrArg
	}
	b := make([]byte, size)
	for i := range size {
		b[i] = byte(v >> (8 * i))
	}
	return b, nil
}

func isSize(n int) bool { return n == 1 || n == 2 || n == 4 }

// Sext is a number's lowest bits, with the highest of them spread over those above.
func Sext(v uint32, bits int) uint32 {
	if bits < 1 || bits > 31 {
		return v
	}
	rest := 32 - bits
	return uint32(int32(v<<rest) >> rest)
}

// Add is a sum, and one more, if it is carried in; what is carried out; whether it is wrong with signs.
func Add(a, b uint32, carry bool) (uint32, bool, bool) {
	var in uint32
	if carry {
		in = 1
	}
	sum, out := bits.Add32(a, b, in)
	return sum, out == 1, isBeyond(signed(a) + signed(b) + int64(in))
}

// Sub is a difference; whether something was borrowed; whether it is wrong with signs.
func Sub(a, b uint32) (uint32, bool, bool) {
	return a - b, a < b, isBeyond(signed(a) - signed(b))
}

// Mul is a product: its lowest 32 bits, and the others.
func Mul(a, b uint32) (uint32, uint32) {
	high, low := bits.Mul32(a, b)
	return low, high
}

// Div is a quotient, and what is left.
func Div(a, b uint32) (uint32, uint32, error) {
	if b == 0 {
		return 0, 0, api.ErrArg
	}
	return a / b, a % b, nil
}

// Signed is a quotient of numbers with signs, cut towards nought, and what is left.
func Signed(a, b uint32) (uint32, uint32, error) {
	if b == 0 {
		return 0, 0, api.ErrArg
	}
	x, y := signed(a), signed(b)
	return uint32(x / y), uint32(x % y), nil
}

// signed has 64 bits, so that no sum, difference or quotient of two of its answers wraps round.
func signed(v uint32) int64 { return int64(int32(v)) }

func isBeyond(exact int64) bool { return exact < math.MinInt32 || exact > math.MaxInt32 }

// Shift moves bits up by a number below 32; down, if it is below nought.
func Shift(v uint32, by int) uint32 {
	if by < 0 {
		// The least int is its own negative; its five lowest bits are 0, as those of the exact negative are.
		return v >> (-by & steps)
	}
	return v << (by & steps)
}

// Sar moves bits down, the highest one staying.
func Sar(v uint32, by int) uint32 { return uint32(int32(v) >> (by & steps)) }

// Turn moves bits up, those that fall out coming in again.
func Turn(v uint32, by int) uint32 { return bits.RotateLeft32(v, by&steps) }

// Zeros is how many of the highest bits are not set.
func Zeros(v uint32) int { return bits.LeadingZeros32(v) }
