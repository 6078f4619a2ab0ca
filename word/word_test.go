package word_test

import (
	"bytes"
	"errors"
	"math"
	"math/big"
	"testing"

	"halter/api"
	"halter/word"
)

const least = 1 << 31 // -2^31 as a signed number

// edges are crossed with each other, so they are few: both sides of each bound, and some bits in no order.
func edges() []uint32 {
	return []uint32{
		0, 1, 2, 3, 7, 10, 0x7f, 0x80, 0xff, 0x100, 0x7fff, 0x8000, 0xffff, 0x10000, 0x10001,
		0x12345678, 0x2aaaaaaa, 0x55555555, 0x7ffffffe, 0x7fffffff, 0x80000000, 0x80000001,
		0x9e3779b9, 0xaaaaaaaa, 0xdeadbeef, 0xffff0000, 0xfffffff9, 0xfffffffd, 0xfffffffe, 0xffffffff,
	}
}

// counts are the numbers of steps or bits that are tried: far below 0, around each edge, far above 32.
func counts() []int {
	l := []int{math.MinInt, math.MinInt + 1, math.MinInt32, math.MaxInt32, math.MaxInt - 1, math.MaxInt}
	for n := -70; n <= 70; n++ {
		l = append(l, n)
	}
	return l
}

func wantArg(t *testing.T, what string, err error) {
	t.Helper()
	var no api.Errno
	if !errors.As(err, &no) || no != api.ErrArg {
		t.Errorf("%s: error %v, want %v", what, err, api.ErrArg)
	}
}

func plain(v uint32) *big.Int { return new(big.Int).SetUint64(uint64(v)) }

func signed(v uint32) *big.Int {
	n := plain(v)
	if v >= least {
		n.Sub(n, big.NewInt(1<<32))
	}
	return n
}

// wrap is an exact number modulo 2^32.
func wrap(n *big.Int) uint32 {
	return uint32(new(big.Int).Mod(n, big.NewInt(1<<32)).Uint64())
}

func beyond(n *big.Int) bool {
	return n.Cmp(big.NewInt(-1<<31)) < 0 || n.Cmp(big.NewInt(1<<31-1)) > 0
}

// The bits of a number, the most significant one first: slow, but nothing that word itself uses.
func spell(v uint32) [32]bool {
	var l [32]bool
	for i := range l {
		l[31-i] = v%2 == 1
		v /= 2
	}
	return l
}

func unspell(l [32]bool) uint32 {
	var v uint32
	for _, set := range l {
		v *= 2
		if set {
			v++
		}
	}
	return v
}

// low5 is a number modulo 32, which are its five lowest bits, whatever its sign.
func low5(n *big.Int) int {
	return int(new(big.Int).Mod(n, big.NewInt(32)).Int64())
}

func whole(n int) *big.Int { return big.NewInt(int64(n)) }

func TestWO1Load(t *testing.T) {
	for _, c := range []struct {
		b    []byte
		want uint32
	}{
		{[]byte{0}, 0},
		{[]byte{0x80}, 0x80},
		{[]byte{0xff}, 0xff},
		{[]byte{1, 0}, 1},
		{[]byte{0x34, 0x12}, 0x1234},
		{[]byte{0xff, 0xff}, 0xffff},
		{[]byte{0x78, 0x56, 0x34, 0x12}, 0x12345678},
		{[]byte{0, 0, 0, 0x80}, 0x80000000},
		{[]byte{0xff, 0xff, 0xff, 0xff}, 0xffffffff},
	} {
		if v, err := word.Load(c.b); v != c.want || err != nil {
			t.Errorf("Load(%v): %#x, %v, want %#x", c.b, v, err, c.want)
		}
	}
}

func TestWO1LoadWrongSize(t *testing.T) {
	for _, n := range []int{0, 3, 5, 6, 7, 8, 9, 16, 256, 257} {
		v, err := word.Load(bytes.Repeat([]byte{0xff}, n))
		wantArg(t, "Load", err)
		if v != 0 {
			t.Errorf("Load of %d bytes: %#x beside an error", n, v)
		}
	}
	v, err := word.Load(nil)
	wantArg(t, "Load(nil)", err)
	if v != 0 {
		t.Errorf("Load(nil): %#x beside an error", v)
	}
}

func TestWO1Store(t *testing.T) {
	for _, c := range []struct {
		v    uint32
		size int
		want []byte
	}{
		{0, 1, []byte{0}},
		{0x12345678, 1, []byte{0x78}},
		{0x12345678, 2, []byte{0x78, 0x56}},
		{0x12345678, 4, []byte{0x78, 0x56, 0x34, 0x12}},
		{0xffffff00, 1, []byte{0}},
		{0x80000000, 4, []byte{0, 0, 0, 0x80}},
		{1, 4, []byte{1, 0, 0, 0}},
	} {
		if b, err := word.Store(c.v, c.size); !bytes.Equal(b, c.want) || err != nil {
			t.Errorf("Store(%#x, %d): %v, %v, want %v", c.v, c.size, b, err, c.want)
		}
	}
}

func TestWO1StoreWrongSize(t *testing.T) {
	for _, size := range []int{math.MinInt, -4, -2, -1, 0, 3, 5, 6, 7, 8, 16, 256, 257, 1 << 32, math.MaxInt} {
		b, err := word.Store(0xffffffff, size)
		wantArg(t, "Store", err)
		if len(b) != 0 {
			t.Errorf("Store of %d bytes: %v beside an error", size, b)
		}
	}
}

func TestWO1LoadUndoesStore(t *testing.T) {
	for _, v := range edges() {
		for size, kept := range map[int]uint32{1: 0xff, 2: 0xffff, 4: 0xffffffff} {
			b, err := word.Store(v, size)
			if err != nil || len(b) != size {
				t.Fatalf("Store(%#x, %d): %v, %v", v, size, b, err)
			}
			if got, err := word.Load(b); got != v&kept || err != nil {
				t.Errorf("Load(%v): %#x, %v, want %#x", b, got, err, v&kept)
			}
		}
	}
}

func TestWO1MemoryIsNew(t *testing.T) {
	first, _ := word.Store(0x01020304, 4)
	second, _ := word.Store(0x01020304, 4)
	first = first[:cap(first)]
	for i := range first {
		first[i] = 0xee
	}
	if !bytes.Equal(second, []byte{4, 3, 2, 1}) {
		t.Errorf("two answers of Store share memory: %v", second)
	}
	whole := []byte{1, 2, 3, 4, 5}
	word.Load(whole[:2])
	word.Load(whole)
	if !bytes.Equal(whole, []byte{1, 2, 3, 4, 5}) {
		t.Errorf("Load changed its argument: %v", whole)
	}
}

func TestWO2Add(t *testing.T) {
	for _, c := range []struct {
		a, b      uint32
		carry     bool
		sum       uint32
		out, over bool
	}{
		{2, 3, false, 5, false, false},
		{2, 3, true, 6, false, false},
		{0xffffffff, 1, false, 0, true, false},
		{0xffffffff, 0, true, 0, true, false},
		{0xffffffff, 0xffffffff, true, 0xffffffff, true, false},
		{0xffffffff, 0, false, 0xffffffff, false, false},
		{0x7fffffff, 1, false, least, false, true},
		{0x7fffffff, 0, true, least, false, true},
		{0x7ffffffe, 0, true, 0x7fffffff, false, false},
		{0x7fffffff, 0x7fffffff, true, 0xffffffff, false, true},
		{least, least, false, 0, true, true},
		{least, 0xffffffff, false, 0x7fffffff, true, true},
		// The carry brings the signed sum back to -2^31, so it is correct.
		{least, 0xffffffff, true, least, true, false},
		{least, 0x7fffffff, true, 0, true, false},
	} {
		sum, out, over := word.Add(c.a, c.b, c.carry)
		if sum != c.sum || out != c.out || over != c.over {
			t.Errorf("Add(%#x, %#x, %v): %#x, %v, %v, want %#x, %v, %v", c.a, c.b, c.carry, sum, out, over, c.sum, c.out, c.over)
		}
	}
}

func TestWO2AddIsExact(t *testing.T) {
	for _, a := range edges() {
		for _, b := range edges() {
			for in, carry := range []bool{false, true} {
				exact := new(big.Int).Add(plain(a), plain(b))
				exact.Add(exact, whole(in))
				withSigns := new(big.Int).Add(signed(a), signed(b))
				withSigns.Add(withSigns, whole(in))
				sum, out, over := word.Add(a, b, carry)
				if sum != wrap(exact) || out != (exact.BitLen() > 32) || over != beyond(withSigns) {
					t.Errorf("Add(%#x, %#x, %v): %#x, %v, %v", a, b, carry, sum, out, over)
				}
			}
		}
	}
}

func TestWO2Sub(t *testing.T) {
	for _, c := range []struct {
		a, b         uint32
		diff         uint32
		borrow, over bool
	}{
		{5, 3, 2, false, false},
		{3, 3, 0, false, false},
		{3, 5, 0xfffffffe, true, false},
		{0, 1, 0xffffffff, true, false},
		{0, 0xffffffff, 1, true, false},
		{0xffffffff, 0, 0xffffffff, false, false},
		{least, 1, 0x7fffffff, false, true},
		{0x7fffffff, 0xffffffff, least, true, true},
		{0, least, least, true, true},
		{0xffffffff, least, 0x7fffffff, false, false},
		{least, least, 0, false, false},
	} {
		diff, borrow, over := word.Sub(c.a, c.b)
		if diff != c.diff || borrow != c.borrow || over != c.over {
			t.Errorf("Sub(%#x, %#x): %#x, %v, %v, want %#x, %v, %v", c.a, c.b, diff, borrow, over, c.diff, c.borrow, c.over)
		}
	}
}

func TestWO2SubIsExact(t *testing.T) {
	for _, a := range edges() {
		for _, b := range edges() {
			exact := new(big.Int).Sub(plain(a), plain(b))
			withSigns := new(big.Int).Sub(signed(a), signed(b))
			diff, borrow, over := word.Sub(a, b)
			if diff != wrap(exact) || borrow != (exact.Sign() < 0) || over != beyond(withSigns) {
				t.Errorf("Sub(%#x, %#x): %#x, %v, %v", a, b, diff, borrow, over)
			}
		}
	}
}

func TestWO2Mul(t *testing.T) {
	for _, c := range []struct{ a, b, low, high uint32 }{
		{0, 0xffffffff, 0, 0},
		{6, 7, 42, 0},
		{0xffff, 0x10001, 0xffffffff, 0},
		{0x10000, 0x10000, 0, 1},
		{least, 2, 0, 1},
		{0xffffffff, 0xffffffff, 1, 0xfffffffe},
		{0x12345678, 0x10, 0x23456780, 1},
	} {
		if low, high := word.Mul(c.a, c.b); low != c.low || high != c.high {
			t.Errorf("Mul(%#x, %#x): %#x, %#x, want %#x, %#x", c.a, c.b, low, high, c.low, c.high)
		}
	}
	for _, a := range edges() {
		for _, b := range edges() {
			exact := new(big.Int).Mul(plain(a), plain(b))
			low, high := word.Mul(a, b)
			if low != wrap(exact) || high != wrap(exact.Rsh(exact, 32)) {
				t.Errorf("Mul(%#x, %#x): %#x, %#x", a, b, low, high)
			}
		}
	}
}

func TestWO2Div(t *testing.T) {
	for _, c := range []struct{ a, b, quotient, rest uint32 }{
		{7, 2, 3, 1},
		{2, 7, 0, 2},
		{0, 5, 0, 0},
		{0xffffffff, 1, 0xffffffff, 0},
		{0xffffffff, 2, 0x7fffffff, 1},
		{0xfffffff9, 2, 0x7ffffffc, 1},
		{least, 0xffffffff, 0, least},
		{0xffffffff, 0xffffffff, 1, 0},
	} {
		if q, r, err := word.Div(c.a, c.b); q != c.quotient || r != c.rest || err != nil {
			t.Errorf("Div(%#x, %#x): %#x, %#x, %v, want %#x, %#x", c.a, c.b, q, r, err, c.quotient, c.rest)
		}
	}
}

func TestWO2Signed(t *testing.T) {
	minus := func(n uint32) uint32 { return -n }
	for _, c := range []struct{ a, b, quotient, rest uint32 }{
		{7, 2, 3, 1},
		{minus(7), 2, minus(3), minus(1)},
		{7, minus(2), minus(3), 1},
		{minus(7), minus(2), 3, minus(1)},
		{minus(1), 2, 0, minus(1)},
		{1, minus(2), 0, 1},
		{minus(6), 2, minus(3), 0},
		{0, minus(5), 0, 0},
		{least, minus(1), least, 0},
		{least, 1, least, 0},
		{least, 2, 0xc0000000, 0},
		{least, least, 1, 0},
		{0x7fffffff, least, 0, 0x7fffffff},
		{least, 0x7fffffff, minus(1), minus(1)},
		{0x7fffffff, minus(1), minus(0x7fffffff), 0},
	} {
		if q, r, err := word.Signed(c.a, c.b); q != c.quotient || r != c.rest || err != nil {
			t.Errorf("Signed(%#x, %#x): %#x, %#x, %v, want %#x, %#x", c.a, c.b, q, r, err, c.quotient, c.rest)
		}
	}
}

func TestWO2DivisionsAreExact(t *testing.T) {
	for _, a := range edges() {
		for _, b := range edges()[1:] {
			q, r := new(big.Int).QuoRem(plain(a), plain(b), new(big.Int))
			if quotient, rest, err := word.Div(a, b); quotient != wrap(q) || rest != wrap(r) || err != nil {
				t.Errorf("Div(%#x, %#x): %#x, %#x, %v", a, b, quotient, rest, err)
			}
			q, r = new(big.Int).QuoRem(signed(a), signed(b), new(big.Int))
			if quotient, rest, err := word.Signed(a, b); quotient != wrap(q) || rest != wrap(r) || err != nil {
				t.Errorf("Signed(%#x, %#x): %#x, %#x, %v", a, b, quotient, rest, err)
			}
		}
	}
}

func TestWO2DivisionBy0(t *testing.T) {
	for _, a := range edges() {
		q, r, err := word.Div(a, 0)
		wantArg(t, "Div", err)
		if q != 0 || r != 0 {
			t.Errorf("Div(%#x, 0): %#x, %#x beside an error", a, q, r)
		}
		q, r, err = word.Signed(a, 0)
		wantArg(t, "Signed", err)
		if q != 0 || r != 0 {
			t.Errorf("Signed(%#x, 0): %#x, %#x beside an error", a, q, r)
		}
	}
}

type moved struct {
	v    uint32
	by   int
	want uint32
}

func checkMoves(t *testing.T, name string, move func(uint32, int) uint32, l []moved) {
	t.Helper()
	for _, c := range l {
		if got := move(c.v, c.by); got != c.want {
			t.Errorf("%s(%#x, %d): %#x, want %#x", name, c.v, c.by, got, c.want)
		}
	}
}

func TestWO3Moves(t *testing.T) {
	checkMoves(t, "Shift", word.Shift, []moved{
		{0x12345678, 0, 0x12345678},
		{0x12345678, 4, 0x23456780},
		{0x12345678, -4, 0x01234567},
		{1, 31, least},
		{least, -31, 1},
		{0x12345678, 32, 0x12345678},
		{0x12345678, -32, 0x12345678},
		{0x12345678, 36, 0x23456780},
		{0x12345678, -36, 0x01234567},
		{0xffffffff, 63, least},
		{0xffffffff, -63, 1},
		{0xffffffff, -1, 0x7fffffff},
		{0x12345678, math.MinInt, 0x12345678},
		{0xffffffff, math.MaxInt, least},
	})
	checkMoves(t, "Sar", word.Sar, []moved{
		{0x12345678, 0, 0x12345678},
		{0x12345678, 4, 0x01234567},
		{0x92345678, 4, 0xf9234567},
		{least, 31, 0xffffffff},
		{0x7fffffff, 31, 0},
		{least, 32, least},
		{least, 33, 0xc0000000},
		// The five lowest bits of -1 are 31, and those of -31 are 1.
		{least, -1, 0xffffffff},
		{least, -31, 0xc0000000},
		{least, -32, least},
		{least, math.MinInt, least},
	})
	checkMoves(t, "Turn", word.Turn, []moved{
		{0x12345678, 0, 0x12345678},
		{0x12345678, 4, 0x23456781},
		{0x12345678, 28, 0x81234567},
		{0x12345678, -4, 0x81234567},
		{0x12345678, 32, 0x12345678},
		{0x12345678, 36, 0x23456781},
		{0x12345678, -36, 0x81234567},
		{least, 1, 1},
		{1, 31, least},
		{0x12345678, math.MinInt, 0x12345678},
	})
}

// at is a bit by its place from the most significant one; fill stands on both sides of the number.
func at(l [32]bool, i int, fill bool) bool {
	if i < 0 || i > 31 {
		return fill
	}
	return l[i]
}

func TestWO3MovesBitByBit(t *testing.T) {
	for _, v := range edges() {
		from := spell(v)
		for _, by := range counts() {
			left := low5(whole(by))
			shift := left
			if by < 0 {
				shift = -low5(new(big.Int).Neg(whole(by)))
			}
			var shifted, kept, turned [32]bool
			for i := range 32 {
				shifted[i] = at(from, i+shift, false)
				kept[i] = at(from, i-left, from[0])
				turned[i] = from[(i+left)%32]
			}
			checkMoves(t, "Shift", word.Shift, []moved{{v, by, unspell(shifted)}})
			checkMoves(t, "Sar", word.Sar, []moved{{v, by, unspell(kept)}})
			checkMoves(t, "Turn", word.Turn, []moved{{v, by, unspell(turned)}})
		}
	}
}

func TestWO3Sext(t *testing.T) {
	checkMoves(t, "Sext", word.Sext, []moved{
		{0x7f, 8, 0x7f},
		{0x80, 8, 0xffffff80},
		{0x12345680, 8, 0xffffff80},
		{0xffffff7f, 8, 0x7f},
		{0x8000, 16, 0xffff8000},
		{0x7fff, 16, 0x7fff},
		{1, 1, 0xffffffff},
		{2, 1, 0},
		{0x40000000, 31, 0xc0000000},
		{least, 31, 0},
		{0x12345680, 0, 0x12345680},
		{0x12345680, -1, 0x12345680},
		{0x12345680, -8, 0x12345680},
		{0x92345680, 32, 0x92345680},
		{0x12345680, 33, 0x12345680},
		{0x12345680, 40, 0x12345680},
		{0x12345680, math.MinInt, 0x12345680},
		{0x12345680, math.MaxInt, 0x12345680},
	})
}

func TestWO3SextBitByBit(t *testing.T) {
	for _, v := range edges() {
		for _, many := range counts() {
			to := spell(v)
			if 1 <= many && many <= 31 {
				top := 32 - many
				for i := range top {
					to[i] = to[top]
				}
			}
			checkMoves(t, "Sext", word.Sext, []moved{{v, many, unspell(to)}})
		}
	}
}

func TestWO3Zeros(t *testing.T) {
	for v, want := range map[uint32]int{0: 32, 1: 31, 2: 30, 3: 30, 0xffff: 16, 0x10000: 15, 0x7fffffff: 1, least: 0, 0xffffffff: 0} {
		if got := word.Zeros(v); got != want {
			t.Errorf("Zeros(%#x): %d, want %d", v, got, want)
		}
	}
	for place := range 32 {
		for _, below := range edges() {
			v := uint32(1)<<place | below%(1<<place)
			if got := word.Zeros(v); got != 31-place {
				t.Errorf("Zeros(%#x): %d, want %d", v, got, 31-place)
			}
		}
	}
}

func TestWO4SumMinusPart(t *testing.T) {
	for _, a := range edges() {
		for _, b := range edges() {
			sum, out, _ := word.Add(a, b, false)
			if left, borrow, _ := word.Sub(sum, b); left != a || borrow != out {
				t.Errorf("%#x + %#x - %#x: %#x, %v, want %#x, %v", a, b, b, left, borrow, a, out)
			}
			if left, borrow, _ := word.Sub(sum, a); left != b || borrow != out {
				t.Errorf("%#x + %#x - %#x: %#x, %v, want %#x, %v", a, b, a, left, borrow, b, out)
			}
		}
	}
}

func TestWO4QuotientTimesDivisor(t *testing.T) {
	for _, a := range edges() {
		for _, b := range edges()[1:] {
			for name, divide := range map[string]func(a, b uint32) (uint32, uint32, error){"Div": word.Div, "Signed": word.Signed} {
				q, r, err := divide(a, b)
				if err != nil {
					t.Fatalf("%s(%#x, %#x): %v", name, a, b, err)
				}
				low, high := word.Mul(q, b)
				back, out, _ := word.Add(low, r, false)
				if back != a {
					t.Errorf("%s(%#x, %#x): %#x, %#x, which make %#x", name, a, b, q, r, back)
				}
				if name == "Div" && (high != 0 || out || r >= b) {
					t.Errorf("Div(%#x, %#x): %#x, %#x are not exact", a, b, q, r)
				}
			}
		}
	}
}
