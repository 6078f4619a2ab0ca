package alu_test

import (
	"errors"
	"math"
	"slices"
	"strconv"
	"testing"

	"halter/alu"
	"halter/api"
)

// The operations by their own numbers, as they stand in the list of layer 8.
const (
	opAdd = 4
	opSub = 5
	opMul = 6
	opDiv = 7
	opRem = 8
	opAnd = 9
	opOr  = 10
	opXor = 11
	opShl = 12
	opShr = 13
	opSar = 14
	opCmp = 16

	opJmp = 21
	opJz  = 22
	opJnz = 23
	opJlt = 24
	opJge = 25
	opJc  = 26

	opFadd  = 33
	opFsub  = 34
	opFmul  = 35
	opFdiv  = 36
	opFsqrt = 37
)

// The flags by their own numbers.
const (
	z = 1
	m = 2
	c = 4
	o = 8
)

// Some numbers whose digits are easily miscounted.
const (
	most   = 2147483647 // the greatest number with signs
	lowest = 2147483648 // the least number with signs
	full   = 4294967295
)

// Floats by their bits.
const (
	nought  = 0
	small   = 1 // the least number above 0
	half    = 0x3fe0000000000000
	one     = 0x3ff0000000000000
	onehalf = 0x3ff8000000000000 // one and a half
	two     = 0x4000000000000000
	three   = 0x4008000000000000
	four    = 0x4010000000000000
	six     = 0x4018000000000000
	great   = 0x7fefffffffffffff // the greatest number that is not endless
	endless = 0x7ff0000000000000
	empty   = 0x7ff8000000000000
	minus   = 0x8000000000000000 // the sign
)

var (
	doOps    = []int{opAdd, opSub, opMul, opDiv, opRem, opAnd, opOr, opXor, opShl, opShr, opSar, opCmp}
	floatOps = []int{opFadd, opFsub, opFmul, opFdiv, opFsqrt}
	jumpOps  = []int{opJmp, opJz, opJnz, opJlt, opJge, opJc}
)

// nones are patterns that are no number: quiet or not, with either sign.
var nones = []uint64{
	0x7ff0000000000001, 0x7ff4000000000000, 0x7ff7ffffffffffff, 0x7ff8000000000000, 0x7ff8000000000001, 0x7fffffffffffffff,
	0xfff0000000000001, 0xfff4000000000000, 0xfff7ffffffffffff, 0xfff8000000000000, 0xfff8000000000001, 0xffffffffffffffff,
}

// allFlags are all 32 sums of flags, and these with higher bits.
func allFlags() []uint32 {
	var l []uint32
	for low := range uint32(32) {
		l = append(l, low)
		for _, high := range []uint32{32, 64, 128, 256, 1 << 15, 1 << 16, 1 << 30, 1 << 31, 0xffe0, 0xffffffe0} {
			l = append(l, low|high)
		}
	}
	return l
}

// someFlags are few enough to be crossed with many numbers: each flag alone and missing, and higher bits.
var someFlags = []uint32{0, 1, 2, 4, 8, 15, 16, 17, 18, 20, 24, 31, 32, 48, 0x80000000, 0xffffffe0, 0xffffffef, 0xffffffff}

// strangers are operations other than those known: all others of layer 8, the numbers beside it, and those that are a
// known one modulo a power of 2, or but for its sign.
func strangers(known []int) []int {
	l := []int{
		math.MinInt, math.MinInt + 1, math.MinInt32, -3, -2, -1,
		43, 44, 63, 64, 127, 128, 255, 256, 1000, 65535, 65536, math.MaxInt32, math.MaxInt - 1, math.MaxInt,
	}
	for op := range 43 {
		if !slices.Contains(known, op) {
			l = append(l, op)
		}
	}
	for _, op := range known {
		for _, step := range []int{42, 64, 128, 256, 1 << 16, 1 << 24, 1 << 31, 1 << 32} {
			l = append(l, op+step, op-step)
		}
		l = append(l, -op, ^op, op+math.MinInt)
	}
	slices.Sort(l)
	return slices.Compact(l)
}

func hex(v uint64) string { return strconv.FormatUint(v, 16) }

func number(v uint32) string { return strconv.FormatUint(uint64(v), 10) }

func isErrno(err error, want api.Errno) bool {
	var no api.Errno
	return errors.As(err, &no) && no == want
}

func wantDo(t *testing.T, op int, a, b, flags, v, after uint32) {
	t.Helper()
	gotV, gotFlags, err := alu.Do(op, a, b, flags)
	if gotV != v || gotFlags != after || err != nil {
		t.Fatalf("Do(%d, %d, %d, %#x): %d, %d, %v, want %d, %d", op, a, b, flags, gotV, gotFlags, err, v, after)
	}
}

func wantNoDo(t *testing.T, op int, a, b, flags uint32, want api.Errno) {
	t.Helper()
	v, after, err := alu.Do(op, a, b, flags)
	if v != 0 || after != 0 || !isErrno(err, want) {
		t.Fatalf("Do(%d, %d, %d, %#x): %d, %d, %v, want 0, 0, %v", op, a, b, flags, v, after, err, want)
	}
}

func wantFloat(t *testing.T, op int, a, b, want uint64) {
	t.Helper()
	if v, err := alu.Float(op, a, b); v != want || err != nil {
		t.Fatalf("Float(%d, %s, %s): %s, %v, want %s", op, hex(a), hex(b), hex(v), err, hex(want))
	}
}

func wantCmp(t *testing.T, a, b uint64, flags, want uint32) {
	t.Helper()
	if v := alu.Cmp(a, b, flags); v != want {
		t.Fatalf("Cmp(%s, %s, %#x): %s, want %s", hex(a), hex(b), flags, number(v), number(want))
	}
}

func wantTaken(t *testing.T, op int, flags uint32, want bool) {
	t.Helper()
	if taken, err := alu.Taken(op, flags); taken != want || err != nil {
		t.Fatalf("Taken(%d, %#x): %v, %v, want %v", op, flags, taken, err, want)
	}
}

// TestNames: the flags have the numbers that the chapter gives them.
func TestNames(t *testing.T) {
	got := []int{alu.Zero, alu.Minus, alu.Carry, alu.Over, alu.Step}
	if want := []int{1, 2, 4, 8, 16}; !slices.Equal(got, want) {
		t.Errorf("flags: %v, want %v", got, want)
	}
}

// A row is what an operation makes of two numbers, and which flags it sets, but for Step.
type row struct {
	a, b, v, flags uint32
}

// wantRows holds the rows of an operation, whatever the flags were: Step stays, and all others are set anew.
func wantRows(t *testing.T, op int, rows []row) {
	t.Helper()
	for _, r := range rows {
		for _, flags := range allFlags() {
			wantDo(t, op, r.a, r.b, flags, r.v, r.flags|flags&16)
		}
	}
}

// AL1: sums; Carry is that of numbers without signs, Over that of numbers with signs.
func TestAdd(t *testing.T) {
	wantRows(t, opAdd, []row{
		{0, 0, 0, z}, {1, 0, 1, 0}, {0, 1, 1, 0}, {1, 1, 2, 0}, {5, 7, 12, 0},
		{full, 0, full, m}, {full, 1, 0, z | c}, {1, full, 0, z | c}, {full, 2, 1, c}, {full, full, full - 1, m | c},
		{most, 0, most, 0}, {most, 1, lowest, m | o}, {1, most, lowest, m | o}, {most, most, full - 1, m | o},
		{most, lowest, full, m}, {lowest, most, full, m}, {most, full, most - 1, c}, {full, most, most - 1, c},
		{lowest, 0, lowest, m}, {lowest, 1, lowest + 1, m}, {lowest, lowest, 0, z | c | o}, {lowest, full, most, c | o}, {full, lowest, most, c | o},
		{lowest + 1, lowest, 1, c | o}, {lowest + 1, most, 0, z | c}, {0xc0000000, 0xc0000000, lowest, m | c}, {0xc0000000, 0xbfffffff, most, c | o},
		{0x40000000, 0x3fffffff, most, 0}, {0x40000000, 0x40000000, lowest, m | o},
	})
}

// differences are the rows of Sub, and, but for the result, of Cmp.
var differences = []row{
	{0, 0, 0, z}, {1, 0, 1, 0}, {1, 1, 0, z}, {5, 5, 0, z}, {7, 5, 2, 0}, {5, 7, full - 1, m | c},
	{0, 1, full, m | c}, {0, full, 1, c}, {1, full, 2, c}, {full, 0, full, m}, {full, 1, full - 1, m}, {full, full, 0, z},
	{0, most, lowest + 1, m | c}, {most, 0, most, 0}, {most, 1, most - 1, 0}, {most, most, 0, z}, {full, most, lowest, m}, {most, full, lowest, m | c | o},
	{0, lowest, lowest, m | c | o}, {lowest, 0, lowest, m}, {lowest, 1, most, o}, {1, lowest, lowest + 1, m | c | o}, {lowest, lowest, 0, z},
	{most, lowest, full, m | c | o}, {lowest, most, 1, o}, {full, lowest, most, 0}, {lowest, full, lowest + 1, m | c},
	{lowest + 1, lowest, 1, 0}, {lowest, lowest + 1, full, m | c}, {full - 1, most, most, o}, {most - 1, full, most, c},
}

// AL1: differences; Carry is that something was borrowed.
func TestSub(t *testing.T) { wantRows(t, opSub, differences) }

// AL1: Cmp answers its first number, with the flags of the difference.
func TestCmpOfNumbers(t *testing.T) {
	rows := slices.Clone(differences)
	for i, r := range rows {
		rows[i].v = r.a
	}
	wantRows(t, opCmp, rows)
}

// AL1: the chapter's own example.
func TestExample(t *testing.T) { wantDo(t, opCmp, 5, 5, 0, 5, alu.Zero) }

// AL1: products; Carry is that the upper half is not 0, and Over is never set.
func TestMul(t *testing.T) {
	wantRows(t, opMul, []row{
		{0, 0, 0, z}, {0, 1, 0, z}, {1, 0, 0, z}, {0, full, 0, z}, {full, 0, 0, z}, {1, 1, 1, 0}, {6, 7, 42, 0},
		{1, most, most, 0}, {1, lowest, lowest, m}, {full, 1, full, m}, {1, full, full, m}, {2, most, full - 1, m}, {most, 2, full - 1, m},
		{65535, 65535, 0xfffe0001, m}, {65535, 65537, full, m}, {65536, 32767, 0x7fff0000, 0}, {65536, 32768, lowest, m}, {65536, 65535, 0xffff0000, m},
		{65536, 65536, 0, z | c}, {65537, 65536, 65536, c}, {65537, 65537, 0x20001, c}, {3, 0x55555555, full, m}, {3, 0x55555556, 2, c},
		{2, lowest, 0, z | c}, {lowest, 2, 0, z | c}, {lowest, 3, lowest, m | c}, {lowest, lowest, 0, z | c}, {most, most, 1, c},
		{full, 2, full - 1, m | c}, {full, full, 1, c}, {full, most, lowest + 1, m | c}, {lowest, full, lowest, m | c}, {most, 3, most - 2, c},
	})
}

// AL1: quotients, without signs; neither Carry nor Over.
func TestDiv(t *testing.T) {
	wantRows(t, opDiv, []row{
		{0, 1, 0, z}, {0, full, 0, z}, {1, 1, 1, 0}, {1, 2, 0, z}, {2, 1, 2, 0}, {7, 2, 3, 0}, {42, 6, 7, 0}, {42, 5, 8, 0},
		{most, 1, most, 0}, {lowest, 1, lowest, m}, {full, 1, full, m}, {full, 2, most, 0}, {lowest, 2, 0x40000000, 0},
		{full, most, 2, 0}, {full, lowest, 1, 0}, {full, full, 1, 0}, {full - 1, full, 0, z}, {lowest, full, 0, z}, {most, full, 0, z},
		{lowest, most, 1, 0}, {most, lowest, 0, z}, {most, most, 1, 0}, {lowest, lowest, 1, 0}, {1, full, 0, z},
	})
}

// AL1: what is left, without signs; neither Carry nor Over.
func TestRem(t *testing.T) {
	wantRows(t, opRem, []row{
		{0, 1, 0, z}, {0, full, 0, z}, {1, 1, 0, z}, {1, 2, 1, 0}, {2, 1, 0, z}, {7, 2, 1, 0}, {42, 6, 0, z}, {42, 5, 2, 0},
		{most, 1, 0, z}, {lowest, 1, 0, z}, {full, 1, 0, z}, {full, 2, 1, 0}, {lowest, 2, 0, z}, {lowest, 3, 2, 0},
		{full, most, 1, 0}, {full, lowest, most, 0}, {full, full, 0, z}, {full - 1, full, full - 1, m}, {lowest, full, lowest, m}, {most, full, most, 0},
		{lowest, most, 1, 0}, {most, lowest, most, 0}, {most, most, 0, z}, {lowest, lowest, 0, z}, {1, full, 1, 0},
	})
}

// AL1: numbers bit by bit; neither Carry nor Over.
func TestBits(t *testing.T) {
	wantRows(t, opAnd, []row{
		{0, 0, 0, z}, {12, 10, 8, 0}, {12, 3, 0, z}, {full, 0, 0, z}, {0, full, 0, z}, {full, full, full, m}, {full, 1, 1, 0},
		{full, most, most, 0}, {full, lowest, lowest, m}, {lowest, full, lowest, m}, {most, lowest, 0, z}, {lowest, lowest, lowest, m}, {0x12345678, 0xff00ff, 0x340078, 0},
	})
	wantRows(t, opOr, []row{
		{0, 0, 0, z}, {12, 10, 14, 0}, {12, 3, 15, 0}, {full, 0, full, m}, {0, full, full, m}, {full, full, full, m}, {0, 1, 1, 0},
		{0, most, most, 0}, {0, lowest, lowest, m}, {lowest, 0, lowest, m}, {most, lowest, full, m}, {most, most, most, 0}, {0x12345678, 0xff00ff, 0x12ff56ff, 0},
	})
	wantRows(t, opXor, []row{
		{0, 0, 0, z}, {12, 10, 6, 0}, {12, 3, 15, 0}, {full, 0, full, m}, {0, full, full, m}, {full, full, 0, z}, {full, 1, full - 1, m},
		{full, most, lowest, m}, {full, lowest, most, 0}, {most, lowest, full, m}, {most, most, 0, z}, {lowest, lowest, 0, z}, {0x12345678, 0xff00ff, 0x12cb5687, 0},
	})
}

// AL1: moves, by the lowest five bits of the second number; neither Carry nor Over, whatever falls out.
func TestMoves(t *testing.T) {
	wantRows(t, opShl, []row{
		{1, 0, 1, 0}, {1, 1, 2, 0}, {1, 30, 0x40000000, 0}, {1, 31, lowest, m}, {1, 32, 1, 0}, {1, 33, 2, 0}, {1, 63, lowest, m}, {1, 64, 1, 0},
		{0, 0, 0, z}, {0, 31, 0, z}, {2, 31, 0, z}, {3, 31, lowest, m}, {lowest, 0, lowest, m}, {lowest, 1, 0, z}, {lowest, 32, lowest, m}, {lowest, 33, 0, z},
		{most, 1, full - 1, m}, {full, 1, full - 1, m}, {full, 31, lowest, m}, {full, 32, full, m}, {full, 33, full - 1, m}, {0x40000000, 1, lowest, m},
		{1, most, lowest, m}, {1, lowest, 1, 0}, {1, lowest + 1, 2, 0}, {1, full, lowest, m}, {1, full - 31, 1, 0}, {1, 0xffffff00, 1, 0}, {0x12345678, 4, 0x23456780, 0},
	})
	wantRows(t, opShr, []row{
		{1, 0, 1, 0}, {1, 1, 0, z}, {2, 1, 1, 0}, {3, 1, 1, 0}, {1, 31, 0, z}, {1, 32, 1, 0}, {1, 33, 0, z}, {4, 33, 2, 0}, {4, 66, 1, 0},
		{0, 0, 0, z}, {0, 31, 0, z}, {lowest, 0, lowest, m}, {lowest, 1, 0x40000000, 0}, {lowest, 31, 1, 0}, {lowest, 32, lowest, m}, {lowest, 33, 0x40000000, 0}, {lowest, 63, 1, 0},
		{most, 1, 0x3fffffff, 0}, {most, 30, 1, 0}, {most, 31, 0, z}, {full, 0, full, m}, {full, 1, most, 0}, {full, 31, 1, 0}, {full, 32, full, m}, {full, 33, most, 0},
		{lowest, most, 1, 0}, {lowest, lowest, lowest, m}, {lowest, lowest + 1, 0x40000000, 0}, {lowest, full, 1, 0}, {lowest, full - 31, lowest, m}, {0x12345678, 4, 0x1234567, 0},
	})
	wantRows(t, opSar, []row{
		{1, 0, 1, 0}, {1, 1, 0, z}, {2, 1, 1, 0}, {3, 1, 1, 0}, {1, 31, 0, z}, {1, 32, 1, 0}, {1, 33, 0, z}, {4, 33, 2, 0}, {4, 66, 1, 0},
		{0, 0, 0, z}, {0, 31, 0, z}, {lowest, 0, lowest, m}, {lowest, 1, 0xc0000000, m}, {lowest, 31, full, m}, {lowest, 32, lowest, m}, {lowest, 33, 0xc0000000, m}, {lowest, 63, full, m},
		{most, 1, 0x3fffffff, 0}, {most, 30, 1, 0}, {most, 31, 0, z}, {full, 0, full, m}, {full, 1, full, m}, {full, 31, full, m}, {full, 32, full, m}, {full, 33, full, m},
		{lowest, most, full, m}, {lowest, lowest, lowest, m}, {lowest, lowest + 1, 0xc0000000, m}, {lowest, full, full, m}, {lowest, full - 31, lowest, m}, {0x87654321, 4, 0xf8765432, m},
	})
}

// AL1: who divides by 0 has a fault, and neither a result nor flags.
func TestByNought(t *testing.T) {
	for _, op := range []int{opDiv, opRem} {
		for _, a := range []uint32{0, 1, 2, 42, most, lowest, full} {
			for _, flags := range allFlags() {
				wantNoDo(t, op, a, 0, flags, api.ErrFault)
			}
		}
	}
}

// AL1: an operation that Do doesn't know is a wrong argument, also of 0, and beside it stand no flags.
func TestDoStrangers(t *testing.T) {
	for _, op := range strangers(doOps) {
		for _, a := range []uint32{0, 1, 7, most, lowest, full} {
			for _, b := range []uint32{0, 1, 3, most, lowest, full} {
				for _, flags := range someFlags {
					wantNoDo(t, op, a, b, flags, api.ErrArg)
				}
			}
		}
	}
}

// AL3: an operation that is no jump by flags is a wrong argument; so are Call and Jr.
func TestTakenStrangers(t *testing.T) {
	for _, op := range strangers(jumpOps) {
		for _, flags := range allFlags() {
			if taken, err := alu.Taken(op, flags); taken || !isErrno(err, api.ErrArg) {
				t.Fatalf("Taken(%d, %#x): %v, %v, want false, %v", op, flags, taken, err, api.ErrArg)
			}
		}
	}
}

// AL3: each jump under each of the sums of Zero, Minus, Carry and Over; neither Step nor a higher bit tells.
func TestTaken(t *testing.T) {
	jumps := []struct {
		op    int
		taken []uint32
	}{
		{opJmp, []uint32{0, 1, 2, 3, 4, 5, 6, 7, 8, 9, 10, 11, 12, 13, 14, 15}},
		{opJz, []uint32{1, 3, 5, 7, 9, 11, 13, 15}},
		{opJnz, []uint32{0, 2, 4, 6, 8, 10, 12, 14}},
		{opJlt, []uint32{m, m | z, m | c, m | c | z, o, o | z, o | c, o | c | z}},
		{opJge, []uint32{0, z, c, c | z, m | o, m | o | z, m | o | c, m | o | c | z}},
		{opJc, []uint32{4, 5, 6, 7, 12, 13, 14, 15}},
	}
	for _, j := range jumps {
		for _, flags := range allFlags() {
			wantTaken(t, j.op, flags, slices.Contains(j.taken, flags%16))
		}
	}
}
