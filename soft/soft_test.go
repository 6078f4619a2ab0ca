package soft_test

import (
	"slices"
	"testing"

	"halter/soft"
)

const (
	least     = 1           // the least number above 0
	mostSmall = part        // the greatest subnormal number
	leastFull = part + 1    // the least normal number
	greatest  = endless - 1 // the greatest number
	one       = 0x3ff0000000000000
	two       = 0x4000000000000000
	three     = 0x4008000000000000
	half      = 0x3fe0000000000000
)

// power are the bits of 2^n, for n from -1022 to 1023.
func power(n int) uint64 { return uint64(n+1023) << 52 }

// nones are NaNs of each kind: quiet and signalling, with either sign, the least and the greatest fraction.
func nones() []uint64 {
	return []uint64{
		0x7ff0000000000001, 0x7ff0000000000002, 0x7ff4000000000000, 0x7ff7ffffffffffff,
		0x7ff8000000000000, 0x7ff8000000000001, 0x7ffc000000000000, 0x7fffffffffffffff,
		0xfff0000000000001, 0xfff4000000000000, 0xfff7ffffffffffff,
		0xfff8000000000000, 0xfff8000000000001, 0xffffffffffffffff,
	}
}

// finite are crossed with each other, so they are few: both sides of each bound, and some bits in no order.
func finite() []uint64 {
	l := []uint64{
		0, least, 2, 3, 5, part / 2, mostSmall - 1, mostSmall, leastFull, leastFull + 1, 2*leastFull - 1, 2 * leastFull,
		power(-1000), power(-538), power(-537), power(-511), power(-54), power(-53), power(-53) + 1, power(-52),
		half - 1, half, half + 1, one - 1, one, one + 1, one + 2, 0x3ff8000000000000, two, three, 0x4024000000000000,
		0x3fb999999999999a, 0x400921fb54442d18, power(31) - 1<<21, power(31) - 1<<22, power(31), power(31) + 1<<21, power(32),
		power(52) + 1, power(53) - 1, power(53), power(53) + 1, power(63), power(511), power(512), power(970) - 1, power(970), power(970) + 1,
		power(1000), power(1023), greatest - 1, greatest,
	}
	for _, a := range l {
		l = append(l, a|minus)
	}
	return l
}

// all are numbers of every class, and NaNs.
func all() []uint64 {
	return slices.Concat(finite(), []uint64{endless, endless | minus}, nones())
}

// numbers are all but NaNs.
func numbers() []uint64 {
	return append(finite(), endless, endless|minus)
}

// scatter is the i-th of many patterns in no order, always the same ones.
func scatter(i int) uint64 {
	v := uint64(i+1) * 0x9e3779b97f4a7c15
	v = (v ^ v>>30) * 0xbf58476d1ce4e5b9
	v = (v ^ v>>27) * 0x94d049bb133111eb
	return v ^ v>>31
}

// field is a pattern with another exponent, which is cut to those of finite numbers.
func field(a uint64, e int) uint64 {
	return a&^endless | uint64(min(max(e, 0), 0x7fe))<<52
}

func exponent(a uint64) int { return int(a >> 52 & 0x7ff) }

type pair struct{ a, b, want uint64 }

func checkPairs(t *testing.T, name string, f func(a, b uint64) uint64, l []pair) {
	t.Helper()
	for _, c := range l {
		if got := f(c.a, c.b); got != c.want {
			t.Errorf("%s(%#x, %#x): %#x, want %#x", name, c.a, c.b, got, c.want)
		}
	}
}

func TestSF1Class(t *testing.T) {
	for _, c := range []struct {
		a    uint64
		want int
	}{
		{0, soft.Nought},
		{least, soft.Small}, {0x0008000000000000, soft.Small}, {mostSmall, soft.Small},
		{leastFull, soft.Usual}, {one, soft.Usual}, {0x3fb999999999999a, soft.Usual}, {0x7fe0000000000000, soft.Usual}, {greatest, soft.Usual},
		{endless, soft.Endless},
		{0x7ff0000000000001, soft.None}, {0x7ff8000000000000, soft.None}, {0x7fffffffffffffff, soft.None},
	} {
		for _, a := range []uint64{c.a, c.a | minus} {
			if got := soft.Class(a); got != c.want {
				t.Errorf("Class(%#x): %d, want %d", a, got, c.want)
			}
		}
	}
}

// Every exponent, with fractions of which each bit decides once.
func TestSF1EveryExponent(t *testing.T) {
	for e := range uint64(0x800) {
		for bit := -1; bit < 52; bit++ {
			low, want := uint64(0), soft.Usual
			if bit >= 0 {
				low = 1 << bit
			}
			switch {
			case e == 0 && low == 0:
				want = soft.Nought
			case e == 0:
				want = soft.Small
			case e == 0x7ff && low == 0:
				want = soft.Endless
			case e == 0x7ff:
				want = soft.None
			}
			for _, sign := range []uint64{0, minus} {
				if a := sign | e<<52 | low; soft.Class(a) != want {
					t.Errorf("Class(%#x): %d, want %d", a, soft.Class(a), want)
				}
			}
		}
	}
}

func TestSF2Usual(t *testing.T) {
	checkPairs(t, "Add", soft.Add, []pair{
		{one, one, two}, {one, two, three}, {three, one | minus, two}, {one | minus, two | minus, three | minus},
		{0x3fb999999999999a, 0x3fc999999999999a, 0x3fd3333333333334}, // 0.1 + 0.2
		{leastFull, least | minus, mostSmall}, {mostSmall, least, leastFull}, {least, least, 2},
	})
	checkPairs(t, "Sub", soft.Sub, []pair{
		{three, one, two}, {one, three, two | minus}, {one, two | minus, three}, {one | minus, two, three | minus},
		{leastFull, least, mostSmall}, {least, 2, least | minus},
	})
	checkPairs(t, "Mul", soft.Mul, []pair{
		{two, three, 0x4018000000000000}, {two | minus, three, 0xc018000000000000}, {two | minus, three | minus, 0x4018000000000000},
		{0x3fb999999999999a, three, 0x3fd3333333333334}, {leastFull, half, 0x0008000000000000}, {least, two, 2},
	})
	checkPairs(t, "Div", soft.Div, []pair{
		{three, two, 0x3ff8000000000000}, {one, three, 0x3fd5555555555555}, {one | minus, two, half | minus}, {one | minus, two | minus, half},
		{leastFull, two, 0x0008000000000000}, {2, two, least}, {least, least, one},
	})
	checkRoots(t, map[uint64]uint64{
		one: one, 0x4010000000000000: two, 0x4022000000000000: three, 0x3fd0000000000000: half,
		two: 0x3ff6a09e667f3bcd, least: power(-537), 4: power(-536), leastFull: power(-511), greatest: 0x5fefffffffffffff,
	})
}

func checkRoots(t *testing.T, l map[uint64]uint64) {
	t.Helper()
	for a, want := range l {
		if got := soft.Sqrt(a); got != want {
			t.Errorf("Sqrt(%#x): %#x, want %#x", a, got, want)
		}
	}
}

// Numbers equally near to two others: the one whose last bit is 0 is taken; a little more or less decides otherwise.
func TestSF2Halfway(t *testing.T) {
	checkPairs(t, "Add", soft.Add, []pair{
		{one, power(-53), one}, {one + 1, power(-53), one + 2}, {one | minus, power(-53) | minus, one | minus},
		{one, power(-53) + 1, one + 1}, {one + 1, power(-53) - 1, one + 1},
		{power(53), one, power(53)}, {power(53) + 1, one, power(53) + 2},
		{one, power(-54) | minus, one}, {one, power(-54) + 1 | minus, one - 1}, {one - 1, power(-54), one},
		{one, least, one}, {one, least | minus, one},
	})
	checkPairs(t, "Sub", soft.Sub, []pair{
		{one, power(-54), one}, {one, power(-54) + 1, one - 1}, {one + 1, power(-53), one}, {power(53) + 1, one, power(53)},
	})
	checkPairs(t, "Mul", soft.Mul, []pair{
		{least, half, 0}, {2, half, 1}, {3, half, 2}, {5, half, 2}, {7, half, 4},
		{least, half + 1, least}, {3, half - 1, 1}, {least | minus, half, minus},
		{leastFull + 1, half, 0x0008000000000000}, {leastFull + 3, half, 0x0008000000000002}, {2*leastFull - 1, half, leastFull},
	})
	checkPairs(t, "Div", soft.Div, []pair{
		{least, two, 0}, {3, two, 2}, {5, two, 2}, {least, two | minus, minus}, {3, two - 1, 2}, {least, two - 1, least}, {5, two + 1, 2},
	})
}

// The exact result has to be rounded at once to as many bits as a subnormal number has, not to 53 bits before.
func TestSF2RoundedOnce(t *testing.T) {
	checkPairs(t, "Mul", soft.Mul, []pair{
		// Just above and below the middle of 0 and the least number.
		{power(-537) + 1, power(-538), least}, {power(-537), power(-538), 0}, {power(-537) - 1, power(-538), 0},
		// 3 times 2^-1075, times 1 - 2^-60: just below the middle of the two least numbers, which 53 bits can't tell from the middle.
		{power(-537) | 1<<51 | 3<<21, power(-538) | (part + 1 - 1<<23), least},
		{half - 1, 5, 2}, {half + 1, 5, 3}, {half - 1, 3, 1},
	})
	// The square of 1 + 2^-27 is 2^-54 more than what 53 bits hold: it has lost that before it comes into a sum.
	a, square := uint64(one|1<<25), uint64(one|1<<26)
	if got := soft.Sub(soft.Mul(a, a), square); got != 0 {
		t.Errorf("Sub of a product: %#x, want 0", got)
	}
	if got := soft.Add(soft.Mul(a, a), square|minus); got != 0 {
		t.Errorf("Add of a product: %#x, want 0", got)
	}
}

func TestSF2BeyondTheGreatest(t *testing.T) {
	checkPairs(t, "Add", soft.Add, []pair{
		{greatest, greatest, endless}, {greatest | minus, greatest | minus, endless | minus},
		{greatest, power(970), endless}, {greatest, power(970) - 1, greatest}, {greatest - 1, power(970), greatest - 1},
		{greatest | minus, power(970) | minus, endless | minus}, {greatest | minus, power(970) - 1 | minus, greatest | minus},
		{greatest, power(971), endless}, {greatest, greatest | minus, 0},
	})
	checkPairs(t, "Sub", soft.Sub, []pair{
		{greatest, greatest | minus, endless}, {greatest | minus, greatest, endless | minus},
		{greatest, power(970) | minus, endless}, {greatest, power(970) - 1 | minus, greatest},
	})
	checkPairs(t, "Mul", soft.Mul, []pair{
		{greatest, two, endless}, {greatest, two | minus, endless | minus}, {greatest, one, greatest}, {greatest, one + 1, endless}, {greatest, one - 1, greatest - 1},
		{power(512), power(512), endless}, {power(511), power(512), power(1023)}, {power(512) | minus, power(512) | minus, endless},
	})
	checkPairs(t, "Div", soft.Div, []pair{
		{greatest, half, endless}, {greatest, half | minus, endless | minus}, {greatest, one - 1, endless}, {greatest, least, endless},
		{power(1023), half + 1, 0x7feffffffffffffe}, {one, least, endless}, {one, leastFull, power(1022)},
	})
}

func TestSF2Endless(t *testing.T) {
	const less = endless | minus
	checkPairs(t, "Add", soft.Add, []pair{
		{endless, endless, endless}, {less, less, less}, {endless, less, soft.Empty}, {less, endless, soft.Empty},
	})
	checkPairs(t, "Sub", soft.Sub, []pair{
		{endless, endless, soft.Empty}, {less, less, soft.Empty}, {endless, less, endless}, {less, endless, less},
	})
	checkPairs(t, "Mul", soft.Mul, []pair{
		{endless, endless, endless}, {less, less, endless}, {endless, less, less}, {less, endless, less},
		{endless, 0, soft.Empty}, {endless, minus, soft.Empty}, {0, endless, soft.Empty}, {minus, endless, soft.Empty},
		{less, 0, soft.Empty}, {less, minus, soft.Empty}, {0, less, soft.Empty}, {minus, less, soft.Empty},
	})
	checkPairs(t, "Div", soft.Div, []pair{
		{endless, endless, soft.Empty}, {endless, less, soft.Empty}, {less, endless, soft.Empty}, {less, less, soft.Empty},
		{endless, 0, endless}, {endless, minus, less}, {less, 0, less}, {less, minus, endless},
		{0, endless, 0}, {0, less, minus}, {minus, endless, minus}, {minus, less, 0},
	})
	for _, a := range finite() {
		sign := a & minus
		checkPairs(t, "Add", soft.Add, []pair{{a, endless, endless}, {endless, a, endless}, {a, less, less}, {less, a, less}})
		checkPairs(t, "Sub", soft.Sub, []pair{{a, endless, less}, {endless, a, endless}, {a, less, endless}, {less, a, less}})
		checkPairs(t, "Div", soft.Div, []pair{{a, endless, sign}, {a, less, sign ^ minus}, {endless, a, endless | sign}, {less, a, less ^ sign}})
		if !isNought(a) {
			checkPairs(t, "Mul", soft.Mul, []pair{{a, endless, endless | sign}, {endless, a, endless | sign}, {a, less, less ^ sign}, {less, a, less ^ sign}})
		}
	}
	checkRoots(t, map[uint64]uint64{endless: endless, less: soft.Empty})
}

func TestSF2None(t *testing.T) {
	for _, none := range nones() {
		for _, a := range all() {
			l := []pair{{a, none, soft.Empty}, {none, a, soft.Empty}}
			checkPairs(t, "Add", soft.Add, l)
			checkPairs(t, "Sub", soft.Sub, l)
			checkPairs(t, "Mul", soft.Mul, l)
			checkPairs(t, "Div", soft.Div, l)
		}
		checkRoots(t, map[uint64]uint64{none: soft.Empty})
	}
}

func TestSF2Nought(t *testing.T) {
	checkPairs(t, "Add", soft.Add, []pair{
		{0, 0, 0}, {0, minus, 0}, {minus, 0, 0}, {minus, minus, minus},
		{one, one | minus, 0}, {one | minus, one, 0}, {least, least | minus, 0}, {least | minus, least, 0},
	})
	checkPairs(t, "Sub", soft.Sub, []pair{
		{0, 0, 0}, {0, minus, 0}, {minus, 0, minus}, {minus, minus, 0},
		{one, one, 0}, {one | minus, one | minus, 0}, {least, least, 0}, {least | minus, least | minus, 0},
	})
	checkPairs(t, "Mul", soft.Mul, []pair{
		{0, 0, 0}, {0, minus, minus}, {minus, 0, minus}, {minus, minus, 0},
		{0, one, 0}, {0, one | minus, minus}, {minus, one, minus}, {one | minus, minus, 0},
		{least, least, 0}, {least, least | minus, minus}, {least | minus, least, minus}, {least | minus, least | minus, 0},
	})
	checkPairs(t, "Div", soft.Div, []pair{
		{0, 0, soft.Empty}, {0, minus, soft.Empty}, {minus, 0, soft.Empty}, {minus, minus, soft.Empty},
		{one, 0, endless}, {one, minus, endless | minus}, {one | minus, 0, endless | minus}, {one | minus, minus, endless},
		{least, 0, endless}, {least, minus, endless | minus}, {greatest | minus, 0, endless | minus}, {greatest | minus, minus, endless},
		{0, one, 0}, {0, one | minus, minus}, {minus, one, minus}, {minus, one | minus, 0},
		{least, greatest, 0}, {least, greatest | minus, minus}, {least | minus, greatest, minus}, {least | minus, greatest | minus, 0},
	})
	checkRoots(t, map[uint64]uint64{0: 0, minus: minus})
}

func TestSF2RootBelowNought(t *testing.T) {
	for _, a := range finite() {
		if a&minus != 0 && !isNought(a) {
			checkRoots(t, map[uint64]uint64{a: soft.Empty})
		}
	}
}

func checkExact(t *testing.T, a, b uint64) {
	t.Helper()
	checkPairs(t, "Add", soft.Add, []pair{{a, b, exactSum(a, b)}})
	checkPairs(t, "Sub", soft.Sub, []pair{{a, b, exactDifference(a, b)}})
	checkPairs(t, "Mul", soft.Mul, []pair{{a, b, exactProduct(a, b)}})
	checkPairs(t, "Div", soft.Div, []pair{{a, b, exactQuotient(a, b)}})
}

func TestSF2IsExact(t *testing.T) {
	for _, a := range all() {
		for _, b := range all() {
			checkExact(t, a, b)
		}
		checkRoots(t, map[uint64]uint64{a: exactRoot(a)})
	}
}

func TestSF2IsExactElsewhere(t *testing.T) {
	for i := range 400 {
		a, b := scatter(2*i), scatter(2*i+1)
		checkExact(t, a, b)
		// Exponents that lie near each other, so that bits of both are in the sum.
		near := field(b, exponent(a)+i%120-60)
		checkExact(t, a, near)
		// Products, then quotients, among the subnormal numbers and near the greatest one.
		checkExact(t, field(a, 400), field(b, 623-i%60))
		checkExact(t, field(a, 400), field(b, 1422+i%60))
		checkExact(t, field(a, 1700), field(b, 1368+i%4))
		checkExact(t, field(a, 1700), field(b, 677-i%4))
		checkRoots(t, map[uint64]uint64{a: exactRoot(a), a &^ minus: exactRoot(a &^ minus), b & part: exactRoot(b & part)})
	}
}

type compared struct {
	a, b uint64
	want int
}

func checkCompared(t *testing.T, name string, f func(a, b uint64) int, l []compared) {
	t.Helper()
	for _, c := range l {
		if got := f(c.a, c.b); got != c.want {
			t.Errorf("%s(%#x, %#x): %d, want %d", name, c.a, c.b, got, c.want)
		}
	}
}

func TestSF3Cmp(t *testing.T) {
	checkCompared(t, "Cmp", soft.Cmp, []compared{
		{one, two, -1}, {two, one, 1}, {one, one, 0}, {one | minus, two | minus, 1}, {two | minus, one | minus, -1}, {one | minus, one, -1}, {one, two | minus, 1},
		{0, 0, 0}, {0, minus, 0}, {minus, 0, 0}, {minus, minus, 0},
		{0, least, -1}, {minus, least | minus, 1}, {minus, least, -1}, {mostSmall, leastFull, -1}, {least | minus, 0, -1},
		{greatest, endless, -1}, {endless | minus, greatest | minus, -1}, {endless, endless, 0}, {endless | minus, endless | minus, 0},
		{endless, endless | minus, 1}, {endless | minus, endless, -1},
	})
	for _, a := range all() {
		for _, b := range all() {
			checkCompared(t, "Cmp", soft.Cmp, []compared{{a, b, exactCmp(a, b)}})
		}
	}
}

func TestSF3CmpNone(t *testing.T) {
	for _, none := range nones() {
		for _, a := range all() {
			checkCompared(t, "Cmp", soft.Cmp, []compared{{a, none, 2}, {none, a, 2}})
		}
	}
}

func TestSF3MinMax(t *testing.T) {
	checkPairs(t, "Min", soft.Min, []pair{
		{one, two, one}, {two, one, one}, {one | minus, two | minus, two | minus}, {one, one | minus, one | minus},
		{0, minus, minus}, {minus, 0, minus}, {0, 0, 0}, {minus, minus, minus},
		{minus, least, minus}, {least | minus, 0, least | minus}, {endless, greatest, greatest}, {endless | minus, endless, endless | minus},
	})
	checkPairs(t, "Max", soft.Max, []pair{
		{one, two, two}, {two, one, two}, {one | minus, two | minus, one | minus}, {one, one | minus, one},
		{0, minus, 0}, {minus, 0, 0}, {0, 0, 0}, {minus, minus, minus},
		{minus, least, least}, {least | minus, 0, 0}, {endless, greatest, endless}, {endless | minus, endless, endless},
	})
	for _, a := range numbers() {
		for _, b := range numbers() {
			less, more := a, b
			if c := exactCmp(a, b); c > 0 || c == 0 && b == minus {
				less, more = b, a
			}
			checkPairs(t, "Min", soft.Min, []pair{{a, b, less}})
			checkPairs(t, "Max", soft.Max, []pair{{a, b, more}})
		}
	}
}

func TestSF3MinMaxNone(t *testing.T) {
	for _, none := range nones() {
		for _, a := range all() {
			l := []pair{{a, none, soft.Empty}, {none, a, soft.Empty}}
			checkPairs(t, "Min", soft.Min, l)
			checkPairs(t, "Max", soft.Max, l)
		}
	}
}

func TestSF3Order(t *testing.T) {
	row := []uint64{
		0xffffffffffffffff, 0xfff8000000000001, 0xfff8000000000000, 0xfff7ffffffffffff, 0xfff0000000000001,
		endless | minus, greatest | minus, two | minus, one | minus, leastFull | minus, mostSmall | minus, 2 | minus, least | minus, minus,
		0, least, 2, mostSmall, leastFull, one - 1, one, one + 1, two, greatest,
		endless, 0x7ff0000000000001, 0x7ff7ffffffffffff, 0x7ff8000000000000, 0x7ff8000000000001, 0x7fffffffffffffff,
	}
	for i, a := range row {
		for j, b := range row {
			want := 0
			if i < j {
				want = -1
			}
			if i > j {
				want = 1
			}
			checkCompared(t, "Order", soft.Order, []compared{{a, b, want}})
		}
	}
}

func TestSF3OrderAgreesWithCmp(t *testing.T) {
	for _, a := range numbers() {
		for _, b := range numbers() {
			want := exactCmp(a, b)
			if want == 0 && a == minus && b == 0 {
				want = -1
			}
			if want == 0 && a == 0 && b == minus {
				want = 1
			}
			checkCompared(t, "Order", soft.Order, []compared{{a, b, want}})
		}
	}
}

// ints are whole numbers of 32 bits: the bounds, each power of 2 with its neighbours, and some in no order.
func ints() []uint32 {
	l := []uint32{0, 10, 1e9, 0x12345678, 0xdeadbeef, 0x9e3779b9}
	for i := range 32 {
		l = append(l, 1<<i-1, 1<<i, 1<<i+1, -(1<<i)-1, -(1 << i), -(1<<i)+1)
	}
	for i := range 1000 {
		l = append(l, uint32(scatter(i)))
	}
	return l
}

func TestSF4FromInt(t *testing.T) {
	for v, want := range map[uint32]uint64{
		0: 0, 1: one, 2: two, 3: three, 0xffffffff: one | minus, 0xfffffffe: two | minus,
		0x7fffffff: 0x41dfffffffc00000, 0x80000000: 0xc1e0000000000000, 0x80000001: 0xc1dfffffffc00000, 0x00bc614e: 0x41678c29c0000000,
	} {
		if got := soft.FromInt(v); got != want {
			t.Errorf("FromInt(%#x): %#x, want %#x", v, got, want)
		}
	}
}

func TestSF4FromIntIsExact(t *testing.T) {
	for _, v := range ints() {
		if got := soft.FromInt(v); !isWhole(got, v) || got == minus {
			t.Errorf("FromInt(%#x): %#x", v, got)
		}
	}
}

func TestSF4ToInt(t *testing.T) {
	for a, want := range map[uint64]uint32{
		0: 0, minus: 0, least: 0, least | minus: 0, mostSmall: 0, mostSmall | minus: 0, leastFull: 0, leastFull | minus: 0,
		half: 0, half | minus: 0, one - 1: 0, one - 1 | minus: 0, one: 1, one | minus: 0xffffffff,
		0x3ff8000000000000: 1, 0xbff8000000000000: 0xffffffff, two - 1: 1, two - 1 | minus: 0xffffffff, two: 2, three | minus: 0xfffffffd,
		// 2^31 - 1 and what lies on both sides of it; then 2^31 and beyond.
		0x41dfffffffbfffff: 0x7ffffffe, 0x41dfffffffc00000: 0x7fffffff, 0x41dfffffffc00001: 0x7fffffff, 0x41dfffffffffffff: 0x7fffffff,
		power(31): 0x7fffffff, power(31) + 1: 0x7fffffff, power(31) + 1<<21: 0x7fffffff, power(32): 0x7fffffff, power(32) + 1<<20: 0x7fffffff,
		power(52): 0x7fffffff, power(63): 0x7fffffff, power(64): 0x7fffffff, greatest: 0x7fffffff, endless: 0x7fffffff,
		// The same below 0: -2^31 + 1, -2^31, and beyond.
		0xc1dfffffffbfffff: 0x80000002, 0xc1dfffffffc00000: 0x80000001, 0xc1dfffffffffffff: 0x80000001,
		power(31) | minus: 0x80000000, power(31) + 1 | minus: 0x80000000, power(31) + 1<<21 | minus: 0x80000000, power(32) | minus: 0x80000000,
		power(32) + 1<<20 | minus: 0x80000000, power(63) | minus: 0x80000000, power(64) | minus: 0x80000000, greatest | minus: 0x80000000, endless | minus: 0x80000000,
	} {
		if got := soft.ToInt(a); got != want {
			t.Errorf("ToInt(%#x): %#x, want %#x", a, got, want)
		}
	}
	for _, none := range nones() {
		if got := soft.ToInt(none); got != 0 {
			t.Errorf("ToInt(%#x): %#x, want 0", none, got)
		}
	}
}

func TestSF4ToIntIsExact(t *testing.T) {
	check := func(a uint64) {
		if got, want := soft.ToInt(a), exactToInt(a); got != want {
			t.Errorf("ToInt(%#x): %#x, want %#x", a, got, want)
		}
	}
	for _, a := range all() {
		check(a)
	}
	for i := range 4000 {
		a := scatter(i)
		check(a)
		check(field(a, 1018+i%40))
	}
}

// eachPair visits all that are crossed with each other, and some more.
func eachPair(f func(a, b uint64)) {
	for _, a := range all() {
		for _, b := range all() {
			f(a, b)
		}
	}
	for i := range 4000 {
		a, b := scatter(2*i), scatter(2*i+1)
		f(a, b)
		f(a, field(b, exponent(a)+i%120-60))
	}
}

func TestSF5OrderOfOperands(t *testing.T) {
	eachPair(func(a, b uint64) {
		if x, y := soft.Add(a, b), soft.Add(b, a); x != y {
			t.Errorf("%#x plus %#x: %#x, the other way round %#x", a, b, x, y)
		}
		if x, y := soft.Mul(a, b), soft.Mul(b, a); x != y {
			t.Errorf("%#x times %#x: %#x, the other way round %#x", a, b, x, y)
		}
	})
}

func TestSF5IntegersComeBack(t *testing.T) {
	for _, v := range ints() {
		if got := soft.ToInt(soft.FromInt(v)); got != v {
			t.Errorf("ToInt(FromInt(%#x)): %#x", v, got)
		}
	}
}

func TestSF5MinusItself(t *testing.T) {
	eachPair(func(a, _ uint64) {
		want := uint64(0)
		if isNone(a) || isEndless(a) {
			want = soft.Empty
		}
		if got := soft.Sub(a, a); got != want {
			t.Errorf("%#x minus itself: %#x, want %#x", a, got, want)
		}
	})
}
