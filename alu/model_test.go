package alu_test

import (
	"slices"
	"testing"

	"halter/alu"
	"halter/api"
	"halter/isa"
)

const whole = 1 << 32

// An answer is what Do should answer; no is 0, if there is no error.
type answer struct {
	v, flags uint32
	no       api.Errno
}

// signed is a number with its sign.
func signed(v uint32) int64 {
	if v >= lowest {
		return int64(v) - whole
	}
	return int64(v)
}

// model is the chapter's rule for Do, with whole numbers that are exact.
func model(op int, a, b, flags uint32) answer {
	x, y := int64(a), int64(b)
	var exact int64
	var carry, over bool
	switch op {
	case opAdd:
		exact = x + y
		carry, over = exact >= whole, isBeyond(signed(a)+signed(b))
	case opSub, opCmp:
		exact = x - y
		carry, over = exact < 0, isBeyond(signed(a)-signed(b))
	case opMul:
		product := uint64(a) * uint64(b)
		exact, carry = int64(product%whole), product >= whole
	case opDiv, opRem:
		if y == 0 {
			return answer{no: api.ErrFault}
		}
		exact = x / y
		if op == opRem {
			exact = x - x/y*y
		}
	case opAnd, opOr, opXor:
		exact = bitwise(op, x, y)
	case opShl, opShr, opSar:
		exact = moved(op, a, y%32)
	default:
		return answer{no: api.ErrArg}
	}
	exact = (exact + whole) % whole
	after := modelFlags(exact, carry, over, flags)
	if op == opCmp {
		return answer{v: a, flags: after}
	}
	return answer{v: uint32(exact), flags: after}
}

func isBeyond(exact int64) bool { return exact < -lowest || exact > most }

// modelFlags are the flags behind a number that is modulo 2^32.
func modelFlags(v int64, carry, over bool, before uint32) uint32 {
	sum := uint32(0)
	if v == 0 {
		sum++
	}
	if v >= lowest {
		sum += 2
	}
	if carry {
		sum += 4
	}
	if over {
		sum += 8
	}
	return sum + before/16%2*16
}

// bitwise goes bit by bit.
func bitwise(op int, x, y int64) int64 {
	v := int64(0)
	for place := int64(1); place < whole; place *= 2 {
		ones := x/place%2 + y/place%2
		if op == opAnd && ones == 2 || op == opOr && ones > 0 || op == opXor && ones == 1 {
			v += place
		}
	}
	return v
}

// moved goes one place at a time.
func moved(op int, a uint32, by int64) int64 {
	v := int64(a)
	for range by {
		switch {
		case op == opShl:
			v = v * 2 % whole
		case op == opSar && v >= lowest:
			v = v/2 + lowest
		default:
			v = v / 2
		}
	}
	return v
}

func wantModel(t *testing.T, op int, a, b, flags uint32) {
	t.Helper()
	want := model(op, a, b, flags)
	if want.no != 0 {
		wantNoDo(t, op, a, b, flags, want.no)
		return
	}
	wantDo(t, op, a, b, flags, want.v, want.flags)
}

// numbers are the edges of 32, 16 and 8 bits, and some others.
func numbers() []uint32 {
	l := []uint32{
		0, 1, 2, 3, 5, 7, 31, 32, 33, 63, 64, 127, 128, 255, 256, 257, 32767, 32768, 65535, 65536, 65537,
		0x3fffffff, 0x40000000, 0x40000001, 0x55555555, 0x55555556, most - 1, most, lowest, lowest + 1,
		0xaaaaaaaa, 0xbfffffff, 0xc0000000, 0xffff0000, 0xffffff80, 0xffffffdf, 0xffffffe0, 0xffffffe1, full - 1, full, 0x12345678, 0xdeadbeef,
	}
	return append(l, scattered(20)...)
}

// scattered are numbers in no order, always the same ones.
func scattered(many int) []uint32 {
	l := make([]uint32, many)
	v := uint32(12345)
	for i := range l {
		for range 2 {
			v = v*1664525 + 1013904223
			l[i] = l[i]<<16 | v>>16
		}
	}
	return l
}

// AL1: every operation that Do knows, on every pair of numbers.
func TestDoOfMany(t *testing.T) {
	for _, op := range doOps {
		for _, a := range numbers() {
			for _, b := range numbers() {
				for _, flags := range someFlags {
					wantModel(t, op, a, b, flags)
				}
			}
		}
	}
}

// AL1: pairs of numbers in no order, whose halves and signs are of all kinds.
func TestDoOfScattered(t *testing.T) {
	l := scattered(40000)
	for i := 0; i < len(l); i += 2 {
		a, b := l[i], l[i+1]
		for _, op := range doOps {
			wantModel(t, op, a, b, a>>7)
			wantModel(t, op, a>>16, b, b>>7)
			wantModel(t, op, a, b>>16, b>>9)
			wantModel(t, op, a>>(b%32), b>>(a%32), a>>5)
		}
	}
}

// AL1: all pairs of small numbers, and of the numbers about each edge, where a bound that is one off would be seen.
func TestDoAboutEdges(t *testing.T) {
	for _, from := range []uint32{0, most, lowest, full} {
		for _, other := range []uint32{0, most, lowest, full} {
			for i := range uint32(11) {
				for k := range uint32(11) {
					for _, op := range doOps {
						wantModel(t, op, from-5+i, other-5+k, 0)
						wantModel(t, op, from-5+i, other-5+k, 31)
					}
				}
			}
		}
	}
}

// AL1: moves by every number of places, with every bit above the five that count.
func TestMovesByAll(t *testing.T) {
	for _, op := range []int{opShl, opShr, opSar} {
		for _, a := range numbers() {
			for by := range uint32(32) {
				for bit := 5; bit < 32; bit++ {
					wantModel(t, op, a, by, 0)
					wantModel(t, op, a, by|1<<bit, 16)
					wantModel(t, op, a, by|^uint32(31), 15)
				}
			}
		}
	}
}

// AL1: products about the bound of the upper half.
func TestProductsAboutBound(t *testing.T) {
	for _, a := range numbers() {
		if a == 0 {
			continue
		}
		limit := uint32(full) / a
		for i := range uint32(5) {
			wantModel(t, opMul, a, limit-2+i, 0)
			wantModel(t, opMul, limit-2+i, a, 31)
		}
	}
}

// AL1 to AL3: of the operations of layer 8, each call knows its own, and no other one.
func TestKnown(t *testing.T) {
	for op := range isa.Ops {
		_, _, doErr := alu.Do(op, 7, 2, 0)
		_, floatErr := alu.Float(op, one, two)
		_, takenErr := alu.Taken(op, 0)
		wantKnown(t, "Do", op, doErr, doOps)
		wantKnown(t, "Float", op, floatErr, floatOps)
		wantKnown(t, "Taken", op, takenErr, jumpOps)
	}
}

func wantKnown(t *testing.T, what string, op int, err error, known []int) {
	t.Helper()
	if slices.Contains(known, op) != (err == nil) {
		t.Errorf("%s of operation %d: %v", what, op, err)
	}
}

// AL1 to AL3: the numbers of operations, written out here, are those that layer 8 gives their names.
func TestOpsOfLayer8(t *testing.T) {
	named := [][]int{
		{isa.Add, isa.Sub, isa.Mul, isa.Div, isa.Rem, isa.And, isa.Or, isa.Xor, isa.Shl, isa.Shr, isa.Sar, isa.Cmp},
		{isa.Fadd, isa.Fsub, isa.Fmul, isa.Fdiv, isa.Fsqrt},
		{isa.Jmp, isa.Jz, isa.Jnz, isa.Jlt, isa.Jge, isa.Jc},
	}
	if !slices.Equal(doOps, named[0]) || !slices.Equal(floatOps, named[1]) || !slices.Equal(jumpOps, named[2]) {
		t.Errorf("%v, %v, %v, want %v", doOps, floatOps, jumpOps, named)
	}
}

// wantJumps holds the jumps under flags that a comparison of two numbers made.
func wantJumps(t *testing.T, a, b, flags uint32) {
	t.Helper()
	wantTaken(t, opJmp, flags, true)
	wantTaken(t, opJlt, flags, signed(a) < signed(b))
	wantTaken(t, opJge, flags, signed(a) >= signed(b))
	wantTaken(t, opJc, flags, a < b)
	wantTaken(t, opJz, flags, a == b)
	wantTaken(t, opJnz, flags, a != b)
}

// AL4: behind a Cmp of two numbers, the jumps tell how they stand to each other, with signs and without.
func TestJumpsBehindCmp(t *testing.T) {
	l := slices.Concat(numbers(), scattered(200))
	for _, a := range l {
		for _, b := range l {
			for _, before := range []uint32{0, 15, 16, 31, full} {
				_, flags, err := alu.Do(opCmp, a, b, before)
				if err != nil {
					t.Fatalf("Do(%d, %d, %d, %#x): %v", opCmp, a, b, before, err)
				}
				wantJumps(t, a, b, flags)
			}
		}
	}
}

// AL4: the same of pairs written by hand.
func TestJumpsByHand(t *testing.T) {
	for _, r := range []struct {
		a, b             uint32
		less, carry, equ bool
	}{
		{5, 5, false, false, true}, {0, 0, false, false, true}, {full, full, false, false, true}, {lowest, lowest, false, false, true}, {most, most, false, false, true},
		{1, 2, true, true, false}, {2, 1, false, false, false}, {0, 1, true, true, false}, {1, 0, false, false, false},
		{full, 0, true, false, false}, {0, full, false, true, false}, {full, 1, true, false, false}, {1, full, false, true, false}, {full - 1, full, true, true, false},
		{lowest, most, true, false, false}, {most, lowest, false, true, false}, {lowest, 0, true, false, false}, {0, lowest, false, true, false},
		{lowest, full, true, true, false}, {full, lowest, false, false, false}, {most, full, false, true, false}, {full, most, true, false, false},
		{0, most, true, true, false}, {most, 0, false, false, false}, {lowest, 1, true, false, false}, {1, lowest, false, true, false},
	} {
		for _, before := range allFlags() {
			_, flags, _ := alu.Do(opCmp, r.a, r.b, before)
			wantTaken(t, opJlt, flags, r.less)
			wantTaken(t, opJge, flags, !r.less)
			wantTaken(t, opJc, flags, r.carry)
			wantTaken(t, opJz, flags, r.equ)
			wantTaken(t, opJnz, flags, !r.equ)
		}
	}
}

// AL1: a call answers the same again, whatever was reckoned between.
func TestAgain(t *testing.T) {
	ask := func() []answer {
		var l []answer
		for _, op := range append(slices.Clone(doOps), -1, 0, opJmp) {
			for _, a := range numbers() {
				v, flags, err := alu.Do(op, a, a%5, a>>3)
				no := api.Errno(0)
				if err != nil {
					no, _ = err.(api.Errno)
				}
				l = append(l, answer{v, flags, no})
			}
		}
		return l
	}
	first := ask()
	for _, a := range floats() {
		alu.Float(opFdiv, a, nought)
		alu.Cmp(a, one, full)
	}
	if again := ask(); !slices.Equal(first, again) {
		t.Errorf("other answers at the second time")
	}
}
