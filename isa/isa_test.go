package isa_test

import (
	"errors"
	"math"
	"testing"

	"halter/api"
	"halter/isa"
)

const (
	// greatest is the greatest number of an instruction: flags, with A 15, B 15 and Imm -1.
	greatest = 0x29ffffff
	// least is the least number that is no instruction's.
	least = 0x2a000000
)

// badOps are Ops that no instruction has; most are an operation modulo 2^8, 2^16 or 2^32.
var badOps = []int{
	math.MinInt, math.MinInt + 1, -1 << 32, 1 - 1<<32, math.MinInt32, -65535, -256, -255, -215, -43, -42, -41, -2, -1,
	42, 43, 44, 63, 64, 65, 83, 127, 128, 255, 256, 257, 297, 298, 1 << 16, 1<<16 + 41, 1 << 24, math.MaxInt32, 1 << 31, 1 << 32, 1<<32 + 1, 1<<32 + 41,
	math.MaxInt - 1, math.MaxInt,
}

// badRegisters are As and Bs that no instruction has; most are a register modulo 2^4, 2^8, 2^16 or 2^32.
var badRegisters = []int{
	math.MinInt, math.MinInt + 1, -1 << 32, 1 - 1<<32, math.MinInt32, -256, -17, -16, -15, -2, -1,
	16, 17, 30, 31, 32, 255, 256, 257, 1 << 16, 1<<16 + 15, 1 << 28, math.MaxInt32, 1 << 31, 1 << 32, 1<<32 + 1, 1<<32 + 15,
	math.MaxInt - 1, math.MaxInt,
}

// badImms are Imms that no instruction has; most are another one modulo 2^16 or 2^32.
var badImms = []int{
	math.MinInt, math.MinInt + 1, -1 << 32, 1 - 1<<32, math.MinInt32, -1 << 24, -65537, -65536, -65535, -65531, -40000, -32770, -32769,
	32768, 32769, 40000, 65531, 65535, 65536, 65537, 1 << 24, math.MaxInt32, 1 << 31, 1 << 32, 1<<32 - 1, 1<<32 + 1, 1<<32 + 32767,
	math.MaxInt - 1, math.MaxInt,
}

// goodImms are the edges of Imm, those of its bytes, and some between.
var goodImms = []int{
	-32768, -32767, -32766, -16385, -16384, -4660, -257, -256, -255, -129, -128, -127, -5, -2, -1,
	0, 1, 2, 5, 127, 128, 129, 255, 256, 257, 4660, 16383, 16384, 32766, 32767,
}

// operations are those that the document names, in its order.
func operations() []int {
	return []int{
		isa.Nop, isa.Li, isa.Lui, isa.Mov, isa.Add, isa.Sub, isa.Mul, isa.Div, isa.Rem, isa.And, isa.Or, isa.Xor,
		isa.Shl, isa.Shr, isa.Sar, isa.Addi, isa.Cmp, isa.Lb, isa.Lw, isa.Sb, isa.Sw,
		isa.Jmp, isa.Jz, isa.Jnz, isa.Jlt, isa.Jge, isa.Jc, isa.Call, isa.Jr, isa.Sys, isa.Brk,
		isa.Fld, isa.Fst, isa.Fadd, isa.Fsub, isa.Fmul, isa.Fdiv, isa.Fsqrt, isa.Fcmp, isa.Ftoi, isa.Itof, isa.Flags,
	}
}

// goods are valid instructions: every operation with every A and B, at the edges of Imm.
func goods() []isa.Instr {
	var l []isa.Instr
	for op := range 42 {
		for a := range 16 {
			for b := range 16 {
				for _, imm := range goodImms {
					l = append(l, isa.Instr{Op: op, A: a, B: b, Imm: imm})
				}
			}
		}
	}
	return l
}

// onePart are instructions of which one part is wrong, beside valid ones of every kind.
func onePart() []isa.Instr {
	var l []isa.Instr
	for _, imm := range goodImms {
		for _, a := range []int{0, 1, 8, 15} {
			for _, b := range []int{0, 1, 8, 15} {
				for _, op := range badOps {
					l = append(l, isa.Instr{Op: op, A: a, B: b, Imm: imm})
				}
			}
		}
	}
	for op := range 42 {
		for _, n := range []int{0, 1, 8, 15} {
			for _, bad := range badRegisters {
				for _, imm := range []int{-32768, -1, 0, 1, 32767} {
					l = append(l, isa.Instr{Op: op, A: bad, B: n, Imm: imm}, isa.Instr{Op: op, A: n, B: bad, Imm: imm})
				}
			}
			for _, bad := range badImms {
				l = append(l, isa.Instr{Op: op, A: n, B: 15 - n, Imm: bad}, isa.Instr{Op: op, A: n, B: n, Imm: bad})
			}
		}
	}
	return l
}

// severalParts are instructions of which two, three or all parts are wrong; in some of them two faults would make up for each other in a sum.
func severalParts() []isa.Instr {
	l := []isa.Instr{
		{Op: -1, A: 16}, {Op: 1, A: -1, B: 16}, {Op: 1, A: 1, B: -1, Imm: 65536}, {Op: 1, A: 1, B: 16, Imm: -65536},
		{Op: 42, A: -16}, {Op: 41, A: 16, B: -16}, {Op: -1, A: 15, B: 15, Imm: 65536}, {Op: 42, A: -1, B: -1, Imm: -32769},
	}
	badOf := func(part int, list []int, good int) []int {
		if part == 0 {
			return []int{good}
		}
		return list
	}
	for which := range 16 {
		if which&(which-1) == 0 { // one wrong part, or none
			continue
		}
		for _, op := range badOf(which&8, []int{-256, -1, 42, 256, 1 << 32}, 41) {
			for _, a := range badOf(which&4, []int{-16, -1, 16, 256, 1 << 32}, 15) {
				for _, b := range badOf(which&2, []int{-16, -1, 16, 256, 1 << 32}, 15) {
					for _, imm := range badOf(which&1, []int{-65536, -32769, 32768, 65536, 1 << 32}, -1) {
						l = append(l, isa.Instr{Op: op, A: a, B: b, Imm: imm})
					}
				}
			}
		}
	}
	return l
}

func bads() []isa.Instr { return append(onePart(), severalParts()...) }

// number is what the chapter's sum says; i is valid.
func number(i isa.Instr) uint32 {
	n := int64(i.Op)*16777216 + int64(i.A)*1048576 + int64(i.B)*65536 + int64(i.Imm)
	if i.Imm < 0 {
		n += 65536
	}
	return uint32(n)
}

func isArg(err error) bool {
	var no api.Errno
	return errors.As(err, &no) && no == api.ErrArg
}

func wantCheck(t *testing.T, i isa.Instr) {
	t.Helper()
	if err := isa.Check(i); err != nil {
		t.Fatalf("Check(%+v): %v", i, err)
	}
}

func wantNoCheck(t *testing.T, i isa.Instr) {
	t.Helper()
	if err := isa.Check(i); !isArg(err) {
		t.Fatalf("Check(%+v): %v, want %v", i, err, api.ErrArg)
	}
}

func wantEncode(t *testing.T, i isa.Instr, want uint32) {
	t.Helper()
	if v, err := isa.Encode(i); v != want || err != nil {
		t.Fatalf("Encode(%+v): %#x, %v, want %#x", i, v, err, want)
	}
}

func wantNoEncode(t *testing.T, i isa.Instr) {
	t.Helper()
	if v, err := isa.Encode(i); v != 0 || !isArg(err) {
		t.Fatalf("Encode(%+v): %#x, %v, want 0 and %v", i, v, err, api.ErrArg)
	}
}

func wantDecode(t *testing.T, v uint32, want isa.Instr) {
	t.Helper()
	if i, err := isa.Decode(v); i != want || err != nil {
		t.Fatalf("Decode(%#x): %+v, %v, want %+v", v, i, err, want)
	}
}

func wantNoDecode(t *testing.T, v uint32) {
	t.Helper()
	if i, err := isa.Decode(v); i != (isa.Instr{}) || !isArg(err) {
		t.Fatalf("Decode(%#x): %+v, %v, want no instruction and %v", v, i, err, api.ErrArg)
	}
}

// known are instructions with their numbers, written out by hand.
var known = []struct {
	i isa.Instr
	v uint32
}{
	{isa.Instr{Op: isa.Li, A: 1, B: 0, Imm: 5}, 0x01100005}, // the chapter's example
	{isa.Instr{Op: isa.Li, A: 1, Imm: -5}, 0x0110fffb},
	{isa.Instr{}, 0},
	{isa.Instr{Imm: 1}, 1},
	{isa.Instr{Imm: 32767}, 0x7fff},
	{isa.Instr{Imm: -32768}, 0x8000},
	{isa.Instr{Imm: -32767}, 0x8001},
	{isa.Instr{Imm: -1}, 0xffff},
	{isa.Instr{B: 1}, 0x10000},
	{isa.Instr{B: 15}, 0xf0000},
	{isa.Instr{B: 15, Imm: -1}, 0xfffff},
	{isa.Instr{A: 1}, 0x100000},
	{isa.Instr{A: 15}, 0xf00000},
	{isa.Instr{A: 15, B: 15, Imm: -1}, 0xffffff},
	{isa.Instr{Op: isa.Li}, 0x1000000},
	{isa.Instr{Op: isa.Add, A: 2, B: 3}, 0x04230000},
	{isa.Instr{Op: isa.Sw, A: 7, B: 8, Imm: 0x1234}, 0x14781234},
	{isa.Instr{Op: isa.Lw, A: 9, B: 6, Imm: -0x1234}, 0x1296edcc},
	{isa.Instr{Op: isa.Jmp, Imm: -256}, 0x1500ff00},
	{isa.Instr{Op: isa.Sys}, 0x1d000000},
	{isa.Instr{Op: isa.Itof, A: 10, B: 12, Imm: 255}, 0x28ac00ff},
	{isa.Instr{Op: isa.Flags}, 0x29000000},
	{isa.Instr{Op: isa.Flags, Imm: 32767}, 0x29007fff},
	{isa.Instr{Op: isa.Flags, Imm: -32768}, 0x29008000},
	{isa.Instr{Op: isa.Flags, A: 15, B: 15, Imm: 32767}, 0x29ff7fff},
	{isa.Instr{Op: isa.Flags, A: 15, B: 15, Imm: -1}, greatest},
}

// The operations are counted from Nop on, without a gap, and Ops is how many they are.
func TestIS1Operations(t *testing.T) {
	l := operations()
	for want, op := range l {
		if op != want {
			t.Errorf("operation %d of the document's has the number %d", want, op)
		}
	}
	if isa.Nop != 0 || isa.Flags != 41 || isa.Ops != 42 || len(l) != isa.Ops {
		t.Errorf("Nop %d, Flags %d, Ops %d, %d operations: want 0, 41, 42 and 42", isa.Nop, isa.Flags, isa.Ops, len(l))
	}
}

func TestIS1Check(t *testing.T) {
	for _, c := range known {
		wantCheck(t, c.i)
	}
	for _, i := range goods() {
		wantCheck(t, i)
	}
}

// Each part at both of its edges and one step beyond, with the others at all of theirs.
func TestIS1CheckEdges(t *testing.T) {
	for _, op := range []int{-1, 0, 41, 42} {
		for _, a := range []int{-1, 0, 15, 16} {
			for _, b := range []int{-1, 0, 15, 16} {
				for _, imm := range []int{-32769, -32768, -1, 0, 32767, 32768} {
					i := isa.Instr{Op: op, A: a, B: b, Imm: imm}
					if op == -1 || op == 42 || a == -1 || a == 16 || b == -1 || b == 16 || imm == -32769 || imm == 32768 {
						wantNoCheck(t, i)
						wantNoEncode(t, i)
						continue
					}
					wantCheck(t, i)
					wantEncode(t, i, number(i))
					wantDecode(t, number(i), i)
				}
			}
		}
	}
}

func TestIS1CheckWrong(t *testing.T) {
	for _, i := range bads() {
		wantNoCheck(t, i)
	}
}

func TestIS1Encode(t *testing.T) {
	for _, c := range known {
		wantEncode(t, c.i, c.v)
	}
	for _, i := range goods() {
		wantEncode(t, i, number(i))
	}
}

func TestIS1EncodeWrong(t *testing.T) {
	for _, i := range bads() {
		wantNoEncode(t, i)
	}
}

func TestIS1Decode(t *testing.T) {
	for _, c := range known {
		wantDecode(t, c.v, c.i)
	}
	for _, i := range goods() {
		wantDecode(t, number(i), i)
	}
}

// The most significant byte alone tells whether a number is an instruction's.
func TestIS1DecodeEveryOperation(t *testing.T) {
	rests := []uint32{0, 1, 0x7fff, 0x8000, 0xffff, 0x10000, 0x100000, 0x110001, 0x7fffff, 0x800000, 0xfffffe, 0xffffff}
	for op := range uint32(256) {
		for _, rest := range rests {
			v := op<<24 + rest
			if op > 41 {
				wantNoDecode(t, v)
			} else if i, err := isa.Decode(v); i.Op != int(op) || err != nil {
				t.Fatalf("Decode(%#x): %+v, %v, want Op %d", v, i, err, op)
			}
		}
	}
}

func TestIS1DecodeWrong(t *testing.T) {
	for _, v := range []uint32{
		least, least + 1, 0x2a00ffff, 0x2a0f0000, 0x2af00000, 0x2affffff, 0x2b000000, 0x3f000000, 0x40000000, 0x7fffffff, 0x80000000, 0x81100005, 0xaa000000,
		0xff000000, 0xff000001, 0xff100005, 0xfffffffe, math.MaxUint32,
	} {
		wantNoDecode(t, v)
	}
	v := uint32(1)
	for range 500000 {
		v = v*1664525 + 1013904223
		if v >= least {
			wantNoDecode(t, v)
		}
	}
}

func TestIS1DecodeEdges(t *testing.T) {
	wantDecode(t, 0, isa.Instr{})
	wantDecode(t, 1, isa.Instr{Imm: 1})
	wantDecode(t, 0x29000000, isa.Instr{Op: 41})
	wantDecode(t, greatest-1, isa.Instr{Op: 41, A: 15, B: 15, Imm: -2})
	wantDecode(t, greatest, isa.Instr{Op: 41, A: 15, B: 15, Imm: -1})
	wantNoDecode(t, greatest+1)
}

// Numbers follow each other as the instructions are counted: Imm first (the negative ones after the others), then B, A and Op.
func TestIS1EveryNumberOfSomeOperations(t *testing.T) {
	for _, op := range []int{isa.Nop, isa.Sar, isa.Flags} {
		v := uint32(op) << 24
		for registers := range 256 {
			for n := range 65536 {
				i := isa.Instr{Op: op, A: registers / 16, B: registers % 16, Imm: n}
				if n > 32767 {
					i.Imm = n - 65536
				}
				// The helpers cost too much here; they are called to tell a fault.
				if isa.Check(i) != nil {
					wantCheck(t, i)
				}
				if own, err := isa.Encode(i); own != v || err != nil {
					wantEncode(t, i, v)
				}
				if own, err := isa.Decode(v); own != i || err != nil {
					wantDecode(t, v, i)
				}
				v++
			}
		}
	}
}

// Every Imm there is, and as many on either side, with every operation.
func TestIS1EveryImm(t *testing.T) {
	for op := range 42 {
		for imm := -65536; imm <= 65536; imm++ {
			i := isa.Instr{Op: op, A: 15 - op%16, B: op % 16, Imm: imm}
			isGood := imm >= -32768 && imm <= 32767
			v, err := isa.Encode(i)
			if isGood && (v != number(i) || err != nil) {
				wantEncode(t, i, number(i))
			}
			if !isGood && (v != 0 || err == nil) {
				wantNoEncode(t, i)
			}
			if isGood != (isa.Check(i) == nil) {
				t.Fatalf("Check(%+v): %v", i, isa.Check(i))
			}
		}
	}
}

// What is decoded of an instruction's number is the instruction; no two have the same number.
func TestIS2(t *testing.T) {
	seen := map[uint32]isa.Instr{}
	for _, i := range goods() {
		v, err := isa.Encode(i)
		if err != nil {
			t.Fatalf("Encode(%+v): %v", i, err)
		}
		if other, ok := seen[v]; ok {
			t.Fatalf("%+v and %+v have the same number %#x", i, other, v)
		}
		seen[v] = i
		wantDecode(t, v, i)
	}
}

// Every operation comes back from its number, under its own name.
func TestIS2EveryOperation(t *testing.T) {
	for want, op := range operations() {
		for _, i := range []isa.Instr{{Op: op}, {Op: op, A: 3, B: 12, Imm: 700}, {Op: op, A: 12, B: 3, Imm: -700}} {
			v, err := isa.Encode(i)
			if err != nil || v>>24 != uint32(want) {
				t.Fatalf("Encode(%+v): %#x, %v, want %d as the most significant byte", i, v, err, want)
			}
			wantDecode(t, v, i)
		}
	}
}

// What is encoded of a number's instruction is the number, and the instruction is valid.
func TestIS2Back(t *testing.T) {
	back := func(v uint32) {
		i, err := isa.Decode(v)
		if err != nil {
			t.Fatalf("Decode(%#x): %v", v, err)
		}
		if isa.Check(i) != nil {
			wantCheck(t, i)
		}
		if own, err := isa.Encode(i); own != v || err != nil {
			wantEncode(t, i, v)
		}
	}
	for v := uint32(0); v < least; v += 97 {
		back(v)
	}
	for bit := range 32 {
		for v := uint32(1<<bit - 1); v <= 1<<bit && v < least; v++ {
			back(v)
		}
	}
	back(greatest - 1)
	back(greatest)
}

// One bit more or less in the number is one part more or less in the instruction.
func TestIS2OneBit(t *testing.T) {
	for _, v := range []uint32{0, 0x01100005, 0x14781234, 0x00ffffff, greatest} {
		whole, err := isa.Decode(v)
		if err != nil {
			t.Fatalf("Decode(%#x): %v", v, err)
		}
		for bit := range 24 {
			want := whole
			switch {
			case bit < 15:
				want.Imm ^= 1 << bit
			case bit == 15 && whole.Imm < 0:
				want.Imm += 32768
			case bit == 15:
				want.Imm -= 32768
			case bit < 20:
				want.B ^= 1 << (bit - 16)
			default:
				want.A ^= 1 << (bit - 20)
			}
			wantDecode(t, v^1<<bit, want)
			wantEncode(t, want, v^1<<bit)
		}
	}
}

// An instruction that is not valid has no number of its own, and a number that is none's no instruction.
func TestIS2Wrong(t *testing.T) {
	for _, i := range severalParts() {
		v, err := isa.Encode(i)
		if !isArg(err) {
			t.Fatalf("Encode(%+v): %v, want %v", i, err, api.ErrArg)
		}
		wantDecode(t, v, isa.Instr{})
	}
	for _, v := range []uint32{least, 0x2affffff, 0xff000000, math.MaxUint32} {
		i, err := isa.Decode(v)
		if !isArg(err) {
			t.Fatalf("Decode(%#x): %v, want %v", v, err, api.ErrArg)
		}
		wantEncode(t, i, 0)
	}
}

// The same calls have the same answers, whatever was called between.
func TestIS2Again(t *testing.T) {
	for range 5 {
		for _, c := range known {
			wantCheck(t, c.i)
			wantEncode(t, c.i, c.v)
			wantDecode(t, c.v, c.i)
			wantNoDecode(t, c.v|least)
			wantNoCheck(t, isa.Instr{Op: c.i.Op, A: c.i.A, B: c.i.B, Imm: c.i.Imm - 65536})
			wantNoEncode(t, isa.Instr{Op: c.i.Op + 42, A: c.i.A, B: c.i.B, Imm: c.i.Imm})
		}
	}
}
