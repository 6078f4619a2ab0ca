package soft_test

import (
	"math/big"

	"halter/soft"
)

// What the chapter says, worked out with whole numbers of any size: no float is used here, so that a machine's floats are held against something else.

const (
	minus   = 1 << 63
	endless = 0x7ff << 52 // infinite
	part    = 1<<52 - 1
)

func isNone(a uint64) bool { return a&^minus > endless }

func isEndless(a uint64) bool { return a&^minus == endless }

func isNought(a uint64) bool { return a&^minus == 0 }

// units is how far a number is from 0, in steps of 2^-1075: half of the least number, so that what lies in the middle of two neighbours is whole too.
// What follows the greatest number counts as 2^1024 here, as if there were one more: that is where rounding to infinite begins.
func units(a uint64) *big.Int {
	field, m := a>>52&0x7ff, a&part
	if field > 0 {
		m |= part + 1
		field--
	}
	v := new(big.Int).SetUint64(m)
	return v.Lsh(v, uint(field)+1)
}

// inSteps turns units into units times 2^1075, in which products and squares of units count.
func inSteps(v *big.Int) *big.Int { return new(big.Int).Lsh(v, 1075) }

func withSign(a uint64) *big.Int {
	v := units(a)
	if a&minus != 0 {
		v.Neg(v)
	}
	return v
}

// nearest rounds a number that is not below 0, and of which only that is known how it compares with some units: -1, 0 or 1.
func nearest(compare func(v *big.Int) int) uint64 {
	low, high := uint64(0), uint64(endless)+1
	for high-low > 1 {
		between := low + (high-low)/2
		if compare(units(between)) >= 0 {
			low = between
		} else {
			high = between
		}
	}
	if low == endless {
		return endless
	}
	middle := new(big.Int).Add(units(low), units(low+1))
	middle.Rsh(middle, 1)
	if c := compare(middle); c > 0 || c == 0 && low%2 == 1 {
		return low + 1
	}
	return low
}

func exactSum(a, b uint64) uint64 {
	switch {
	case isNone(a) || isNone(b), isEndless(a) && isEndless(b) && a != b:
		return soft.Empty
	case isEndless(a):
		return a
	case isEndless(b):
		return b
	}
	sum := new(big.Int).Add(withSign(a), withSign(b))
	var sign uint64
	if sum.Sign() < 0 || a == minus && b == minus {
		sign = minus
	}
	sum.Abs(sum)
	return sign | nearest(sum.Cmp)
}

func exactDifference(a, b uint64) uint64 { return exactSum(a, b^minus) }

func exactProduct(a, b uint64) uint64 {
	sign := (a ^ b) & minus
	switch {
	case isNone(a) || isNone(b), isNought(a) && isEndless(b), isEndless(a) && isNought(b):
		return soft.Empty
	case isEndless(a) || isEndless(b):
		return sign | endless
	}
	product := new(big.Int).Mul(units(a), units(b))
	return sign | nearest(func(v *big.Int) int { return product.Cmp(inSteps(v)) })
}

func exactQuotient(a, b uint64) uint64 {
	sign := (a ^ b) & minus
	switch {
	case isNone(a) || isNone(b), isNought(a) && isNought(b), isEndless(a) && isEndless(b):
		return soft.Empty
	case isEndless(a) || isNought(b):
		return sign | endless
	case isEndless(b):
		return sign
	}
	dividend, divisor := inSteps(units(a)), units(b)
	return sign | nearest(func(v *big.Int) int { return dividend.Cmp(v.Mul(v, divisor)) })
}

func exactRoot(a uint64) uint64 {
	switch {
	case isNought(a), a == endless:
		return a
	case isNone(a) || a&minus != 0:
		return soft.Empty
	}
	square := inSteps(units(a))
	return nearest(func(v *big.Int) int { return square.Cmp(v.Mul(v, v)) })
}

// exactCmp counts infinite as 2^1024, which is beyond all others, and that is all that it takes.
func exactCmp(a, b uint64) int {
	if isNone(a) || isNone(b) {
		return 2
	}
	return withSign(a).Cmp(withSign(b))
}

func exactToInt(a uint64) uint32 {
	if isNone(a) {
		return 0
	}
	one := new(big.Int).Lsh(big.NewInt(1), 1075)
	v := new(big.Int).Quo(withSign(a), one)
	if v.Cmp(big.NewInt(1<<31-1)) > 0 {
		return 1<<31 - 1
	}
	if v.Cmp(big.NewInt(-1<<31)) < 0 {
		return 1 << 31
	}
	return uint32(v.Int64())
}

// isWhole tells whether a pattern is a whole number with its sign.
func isWhole(a uint64, v uint32) bool {
	return withSign(a).Cmp(inSteps(big.NewInt(int64(int32(v))))) == 0
}
