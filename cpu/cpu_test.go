package cpu_test

import (
	"slices"
	"strconv"
	"strings"
	"testing"

	"halter/api"
	"halter/cpu"
	"halter/isa"
)

// The operations by their own numbers, as they stand in the list of layer 8.
const (
	opNop   = 0
	opLi    = 1
	opLui   = 2
	opMov   = 3
	opAdd   = 4
	opSub   = 5
	opMul   = 6
	opDiv   = 7
	opRem   = 8
	opAnd   = 9
	opOr    = 10
	opXor   = 11
	opShl   = 12
	opShr   = 13
	opSar   = 14
	opAddi  = 15
	opCmp   = 16
	opLb    = 17
	opLw    = 18
	opSb    = 19
	opSw    = 20
	opJmp   = 21
	opJz    = 22
	opJnz   = 23
	opJlt   = 24
	opJge   = 25
	opJc    = 26
	opCall  = 27
	opJr    = 28
	opSys   = 29
	opBrk   = 30
	opFld   = 31
	opFst   = 32
	opFadd  = 33
	opFsub  = 34
	opFmul  = 35
	opFdiv  = 36
	opFsqrt = 37
	opFcmp  = 38
	opFtoi  = 39
	opItof  = 40
	opFlags = 41
	ops     = 42
)

// The flags by their own numbers.
const (
	zero  = 1
	minus = 2
	carry = 4
	over  = 8
	step  = 16
)

// The signals by their own numbers.
const (
	ill  = 4
	bus  = 7
	fpe  = 8
	segv = 11
)

// An asking is what a Bus was asked for: v is what was to be stored.
type asking struct {
	what string
	at   uint32
	size int
	v    uint32
}

// A recorder is a Bus that answers the instruction code, and to loads numbers that hang on address and size; it keeps
// all that it is asked for, and answers err when it is asked for the time fails (the first one is 0).
type recorder struct {
	code  uint32
	fails int
	err   error
	asked []asking
}

// junk is answered beside an error, and must not get anywhere.
const junk = 0x5a5a5a5a

// heard keeps what is asked for, and tells whether it is answered.
func (b *recorder) heard(a asking) error {
	b.asked = append(b.asked, a)
	if b.err != nil && len(b.asked) == b.fails+1 {
		return b.err
	}
	return nil
}

func (b *recorder) Fetch(at uint32) (uint32, error) {
	if err := b.heard(asking{"fetch", at, 0, 0}); err != nil {
		return junk, err
	}
	return b.code, nil
}

func (b *recorder) Load(at uint32, size int) (uint32, error) {
	if err := b.heard(asking{"load", at, size, 0}); err != nil {
		return junk, err
	}
	return loaded(at, size), nil
}

func (b *recorder) Store(at uint32, size int, v uint32) error {
	return b.heard(asking{"store", at, size, v})
}

// loaded is what a recorder answers to a load: bytes that tell addresses apart, the top one of a word set.
func loaded(at uint32, size int) uint32 {
	if size == 1 {
		return (at*37 + 211) % 256
	}
	return at*2654435761 | 1<<31
}

// code is the number of an instruction, by the sum of layer 8.
func code(op, a, b, imm int) uint32 {
	v := int64(op)<<24 + int64(a)<<20 + int64(b)<<16 + int64(imm)
	if imm < 0 {
		v += 1 << 16
	}
	return uint32(v)
}

// home is where the instructions of most tests stand.
const home = 0x00a1b2c4

// filled are registers in which every word has a number of its own; those of R are divisible by 8, and every second
// one is negative as a signed number.
func filled(flags uint32) api.Regs {
	r := api.Regs{PC: home, Flags: flags}
	for i := range uint32(16) {
		r.R[i] = (i%2)<<31 + 0x01020308*(i+1) - (0x01020308*(i+1))%8
	}
	// 1.5, -2.25, 1e10 and -0.1: neither 0 nor equal, and none has a half that another one has.
	r.F = [4]uint64{0x3ff8000000000011, 0xc002000000000022, 0x4202a05f20000000, 0xbfb999999999999a}
	return r
}

func hex(v uint64) string { return strconv.FormatUint(v, 16) }

func instr(v uint32) string {
	part := func(n uint32) string { return strconv.Itoa(int(n)) }
	return "op " + part(v>>24) + " a " + part(v>>20&15) + " b " + part(v>>16&15) + " imm " + strconv.Itoa(int(int16(v)))
}

// difference tells which words of registers are not as they should be.
func difference(got, want api.Regs) string {
	var l []string
	tell := func(name string, g, w uint64) {
		if g != w {
			l = append(l, name+" "+hex(g)+", want "+hex(w))
		}
	}
	for i := range got.R {
		tell("R"+strconv.Itoa(i), uint64(got.R[i]), uint64(want.R[i]))
	}
	tell("PC", uint64(got.PC), uint64(want.PC))
	tell("Flags", uint64(got.Flags), uint64(want.Flags))
	for i := range got.F {
		tell("F"+strconv.Itoa(i), got.F[i], want.F[i])
	}
	return strings.Join(l, "; ")
}

// wantStep holds a step against what it should make of registers, its event, and what it should ask of the bus.
func wantStep(t *testing.T, b *recorder, before, after api.Regs, e cpu.Event, asked []asking) {
	t.Helper()
	b.asked = nil
	kept := before
	got, event := cpu.Step(b, before)
	if got != after {
		t.Fatalf("%s, flags %d: %s", instr(b.code), before.Flags, difference(got, after))
	}
	if event != e {
		t.Fatalf("%s, flags %d: event %v, want %v", instr(b.code), before.Flags, event, e)
	}
	if !slices.Equal(b.asked, asked) {
		t.Fatalf("%s, flags %d: asked %v, want %v", instr(b.code), before.Flags, b.asked, asked)
	}
	if before != kept {
		t.Fatalf("%s, flags %d: its argument: %s", instr(b.code), before.Flags, difference(before, kept))
	}
}

// wantRan holds a step that succeeds, under each sum of flags: change makes of the registers, whose PC has gone on
// already, what the instruction should. With Step set, the event is Stepped.
func wantRan(t *testing.T, v uint32, change func(r *api.Regs), more ...asking) {
	t.Helper()
	for flags := range uint32(32) {
		before := filled(flags)
		after := before
		after.PC = home + 4
		change(&after)
		wantStep(t, &recorder{code: v}, before, after, ran(flags), append([]asking{fetch(home)}, more...))
	}
}

// ran is the event of an instruction that succeeds, and is neither Sys nor Brk.
func ran(flags uint32) cpu.Event {
	if flags&step != 0 {
		return cpu.Event{Kind: cpu.Stepped}
	}
	return cpu.Event{Kind: cpu.Ran}
}

func fetch(at uint32) asking { return asking{"fetch", at, 0, 0} }

func load(at uint32, size int) asking { return asking{"load", at, size, 0} }

func store(at uint32, size int, v uint32) asking { return asking{"store", at, size, v} }

// wantFailed holds a step that fails: the registers stay as they were, also with Step set.
func wantFailed(t *testing.T, b *recorder, before api.Regs, sig int, at uint32, asked ...asking) {
	t.Helper()
	for flags := range uint32(32) {
		before.Flags = flags
		wantStep(t, b, before, before, cpu.Event{Kind: cpu.Failed, Sig: sig, At: at}, asked)
	}
}

// edges are the numbers that an instruction may have, at their bounds and about 0.
var edges = []int{-32768, -32767, -4660, -256, -8, -5, -4, -3, -2, -1, 0, 1, 2, 3, 4, 5, 7, 8, 255, 256, 4660, 32766, 32767}

// signed is a number of an instruction as a word.
func signed(imm int) uint32 {
	if imm < 0 {
		return 0xffffffff - uint32(-imm-1)
	}
	return uint32(imm)
}

// TestNames: the events and operations have the numbers that these tests take them to have.
func TestNames(t *testing.T) {
	if got, want := []int{cpu.Ran, cpu.Called, cpu.Broke, cpu.Stepped, cpu.Failed}, []int{0, 1, 2, 3, 4}; !slices.Equal(got, want) {
		t.Errorf("events: %v, want %v", got, want)
	}
	named := []int{
		isa.Nop, isa.Li, isa.Lui, isa.Mov, isa.Add, isa.Sub, isa.Mul, isa.Div, isa.Rem, isa.And, isa.Or, isa.Xor, isa.Shl, isa.Shr,
		isa.Sar, isa.Addi, isa.Cmp, isa.Lb, isa.Lw, isa.Sb, isa.Sw, isa.Jmp, isa.Jz, isa.Jnz, isa.Jlt, isa.Jge, isa.Jc, isa.Call,
		isa.Jr, isa.Sys, isa.Brk, isa.Fld, isa.Fst, isa.Fadd, isa.Fsub, isa.Fmul, isa.Fdiv, isa.Fsqrt, isa.Fcmp, isa.Ftoi, isa.Itof,
		isa.Flags, isa.Ops,
	}
	for i, op := range named {
		if op != i {
			t.Errorf("operation %d has the number %d", i, op)
		}
	}
}

// TestFilled: no two words of the registers of these tests can be mistaken for one another.
func TestFilled(t *testing.T) {
	r := filled(31)
	words := append(slices.Clone(r.R[:]), r.PC, r.PC+4, r.Flags, r.Flags%16)
	for _, f := range r.F {
		words = append(words, uint32(f), uint32(f>>32))
	}
	slices.Sort(words)
	if many := len(slices.Compact(slices.Clone(words))); many != len(words) {
		t.Errorf("%d numbers of their own in %d words: %x", many, len(words), words)
	}
}

// CP1: the chapter's own example.
func TestExample(t *testing.T) {
	b := &recorder{code: 0x01100005}
	wantStep(t, b, api.Regs{}, api.Regs{R: [16]uint32{1: 5}, PC: 4}, cpu.Event{Kind: cpu.Ran}, []asking{fetch(0)})
}

// CP1: Nop does nothing, whatever stands in its other parts.
func TestNop(t *testing.T) {
	for _, v := range []uint32{0, code(opNop, 1, 2, 3), code(opNop, 15, 15, -1), code(opNop, 4, 9, -32768), 0x00ffffff} {
		wantRan(t, v, func(*api.Regs) {})
	}
}

// CP1: Li, with its sign, and Lui, in every register.
func TestLiAndLui(t *testing.T) {
	for a := range 16 {
		for _, b := range []int{0, 7, 15} {
			for _, imm := range edges {
				wantRan(t, code(opLi, a, b, imm), func(r *api.Regs) { r.R[a] = signed(imm) })
				wantRan(t, code(opLui, a, b, imm), func(r *api.Regs) { r.R[a] = signed(imm) << 16 })
			}
		}
	}
}

// CP1: the same by hand.
func TestLiAndLuiByHand(t *testing.T) {
	for _, w := range []struct {
		imm     int
		li, lui uint32
	}{
		{0, 0, 0}, {1, 1, 0x10000}, {-1, 0xffffffff, 0xffff0000}, {32767, 0x7fff, 0x7fff0000}, {-32768, 0xffff8000, 0x80000000}, {-5, 0xfffffffb, 0xfffb0000},
	} {
		wantRan(t, code(opLi, 9, 0, w.imm), func(r *api.Regs) { r.R[9] = w.li })
		wantRan(t, code(opLui, 9, 0, w.imm), func(r *api.Regs) { r.R[9] = w.lui })
	}
}

// CP1: Mov, from every register to every one, also to itself.
func TestMov(t *testing.T) {
	for a := range 16 {
		for b := range 16 {
			for _, imm := range []int{-32768, -1, 0, 1, 32767} {
				wantRan(t, code(opMov, a, b, imm), func(r *api.Regs) { r.R[a] = r.R[b] })
			}
		}
	}
}

// CP1: Addi is a sum modulo 2^32, and leaves the flags.
func TestAddi(t *testing.T) {
	for a := range 16 {
		for b := range 16 {
			for _, imm := range edges {
				wantRan(t, code(opAddi, a, b, imm), func(r *api.Regs) { r.R[a] = r.R[b] + signed(imm) })
			}
		}
	}
}

// CP1: the sums of Addi that go beyond 2^32 - 1 or below 0, or would set a flag.
func TestAddiByHand(t *testing.T) {
	for _, w := range []struct {
		from uint32
		imm  int
		to   uint32
	}{
		{0, 0, 0}, {0, -1, 0xffffffff}, {0xffffffff, 1, 0}, {0xffffffff, 32767, 32766}, {0, -32768, 0xffff8000}, {5, -5, 0}, {5, -6, 0xffffffff},
		{0x7fffffff, 1, 0x80000000}, {0x80000000, -1, 0x7fffffff}, {32768, -32768, 0}, {0xffff8000, 32767, 0xffffffff}, {0xffffffff, -32768, 0xffff7fff},
	} {
		for flags := range uint32(32) {
			before := filled(flags)
			before.R[6] = w.from
			after := before
			after.R[3], after.PC = w.to, home+4
			wantStep(t, &recorder{code: code(opAddi, 3, 6, w.imm)}, before, after, ran(flags), []asking{fetch(home)})
		}
	}
}

// CP1: Flags are read modulo 16: Step is not seen.
func TestFlags(t *testing.T) {
	for a := range 16 {
		for _, v := range []uint32{code(opFlags, a, 0, 0), code(opFlags, a, 5, 7), code(opFlags, a, 15, -1)} {
			wantRan(t, v, func(r *api.Regs) { r.R[a] = r.Flags & 15 })
		}
	}
}

// A sum is what an operation of two numbers makes, by hand; flags are those that it sets.
type sum struct {
	op      int
	a, b, v uint32
	flags   uint32
}

var sums = []sum{
	{opAdd, 5, 7, 12, 0},
	{opAdd, 0xffffffff, 1, 0, zero + carry},
	{opAdd, 0x7fffffff, 1, 0x80000000, minus + over},
	{opSub, 7, 5, 2, 0},
	{opSub, 5, 7, 0xfffffffe, minus + carry},
	{opSub, 7, 7, 0, zero},
	{opMul, 6, 7, 42, 0},
	{opMul, 0x10000, 0x10001, 0x10000, carry},
	{opDiv, 42, 5, 8, 0},
	{opDiv, 5, 42, 0, zero},
	{opRem, 42, 5, 2, 0},
	{opRem, 42, 6, 0, zero},
	{opAnd, 12, 10, 8, 0},
	{opOr, 12, 10, 14, 0},
	{opXor, 12, 10, 6, 0},
	{opXor, 0xf0000000, 1, 0xf0000001, minus},
	{opShl, 3, 31, 0x80000000, minus},
	{opShr, 0x80000000, 31, 1, 0},
	{opSar, 0x80000000, 31, 0xffffffff, minus},
	{opCmp, 5, 7, 5, minus + carry},
	{opCmp, 7, 5, 7, 0},
	{opCmp, 5, 5, 5, zero},
	{opCmp, 0x80000000, 1, 0x80000000, over},
}

// CP1: operations of two numbers by hand: the first register and the flags become those of alu.Do, and Step stays.
func TestSumsByHand(t *testing.T) {
	for _, w := range sums {
		for flags := range uint32(32) {
			before := filled(flags)
			before.R[11], before.R[4] = w.a, w.b
			after := before
			after.R[11], after.PC, after.Flags = w.v, home+4, w.flags+flags/step*step
			for _, imm := range []int{0, 1, -1, 32767, -32768} {
				wantStep(t, &recorder{code: code(w.op, 11, 4, imm)}, before, after, ran(flags), []asking{fetch(home)})
			}
		}
	}
}

// CP1: who divides by 0 has a fault at the instruction, also of 0 and of a register by itself.
func TestByNought(t *testing.T) {
	for _, op := range []int{opDiv, opRem} {
		for a := range 16 {
			for b := range 16 {
				before := filled(0)
				before.R[b] = 0
				wantFailed(t, &recorder{code: code(op, a, b, 5)}, before, fpe, home, fetch(home))
			}
		}
	}
}

// CP1: bytes are loaded from any address, and words from those that are divisible by 4.
func TestLoads(t *testing.T) {
	for a := range 16 {
		for b := range 16 {
			for _, imm := range edges {
				at := filled(0).R[b] + signed(imm)
				wantRan(t, code(opLb, a, b, imm), func(r *api.Regs) { r.R[a] = loaded(at, 1) }, load(at, 1))
				if imm%4 != 0 {
					wantFailed(t, &recorder{code: code(opLw, a, b, imm)}, filled(0), bus, at, fetch(home))
					continue
				}
				wantRan(t, code(opLw, a, b, imm), func(r *api.Regs) { r.R[a] = loaded(at, 4) }, load(at, 4))
			}
		}
	}
}

// CP1: bytes are stored at any address, and words at those that are divisible by 4; the whole register is handed on.
func TestStores(t *testing.T) {
	for a := range 16 {
		for b := range 16 {
			for _, imm := range edges {
				at, v := filled(0).R[b]+signed(imm), filled(0).R[a]
				wantRan(t, code(opSb, a, b, imm), func(*api.Regs) {}, store(at, 1, v))
				if imm%4 != 0 {
					wantFailed(t, &recorder{code: code(opSw, a, b, imm)}, filled(0), bus, at, fetch(home))
					continue
				}
				wantRan(t, code(opSw, a, b, imm), func(*api.Regs) {}, store(at, 4, v))
			}
		}
	}
}

// turns are addresses whose sums go beyond 2^32 - 1 or below 0, or stay just this side of it.
var turns = []struct {
	from uint32
	imm  int
	at   uint32
}{
	{0, 0, 0}, {0, 1, 1}, {0, -1, 0xffffffff}, {0, -4, 0xfffffffc}, {0, -8, 0xfffffff8}, {0, -32768, 0xffff8000}, {8, -8, 0}, {8, -16, 0xfffffff8},
	{1, -1, 0}, {3, -4, 0xffffffff}, {4, -8, 0xfffffffc}, {12, -8, 4}, {0xfffffff8, 8, 0}, {0xfffffff8, 4, 0xfffffffc}, {0xfffffff8, 16, 8}, {0xfffffff8, 0, 0xfffffff8},
	{0xfffffffc, 4, 0}, {0xfffffffc, 12, 8}, {0xfffffffc, -4, 0xfffffff8}, {0xffffffff, 1, 0}, {0xffffffff, 9, 8}, {0xffffffff, 32767, 32766}, {0xffff8008, 32760, 0},
	{0xffff8001, 32767, 0}, {0xffffffff, -7, 0xfffffff8}, {2, 2, 4}, {5, 3, 8}, {7, 1, 8}, {8, -1, 7}, {8, -2, 6}, {8, -3, 5}, {8, -4, 4}, {0x7fffffff, 1, 0x80000000},
}

// CP1: addresses are sums modulo 2^32, and it is the sum that has to be divisible.
func TestAddresses(t *testing.T) {
	for _, w := range turns {
		before := filled(0)
		before.R[2] = w.from
		after := before
		after.PC = home + 4
		for op := opLb; op <= opSw; op++ {
			b := &recorder{code: code(op, 5, 2, w.imm)}
			if (op == opLw || op == opSw) && w.at%4 != 0 {
				wantFailed(t, b, before, bus, w.at, fetch(home))
				continue
			}
			size := 1 + (op-opLb)%2*3
			got, want := after, store(w.at, size, before.R[5])
			if op <= opLw {
				got.R[5], want = loaded(w.at, size), load(w.at, size)
			}
			wantStep(t, b, before, got, cpu.Event{Kind: cpu.Ran}, []asking{fetch(home), want})
		}
	}
}

// CP1: loads and stores through a register that is both the number and the address.
func TestSameRegister(t *testing.T) {
	for n := range 16 {
		v := filled(0).R[n]
		wantRan(t, code(opLb, n, n, 3), func(r *api.Regs) { r.R[n] = loaded(v+3, 1) }, load(v+3, 1))
		wantRan(t, code(opLw, n, n, -4), func(r *api.Regs) { r.R[n] = loaded(v-4, 4) }, load(v-4, 4))
		wantRan(t, code(opSb, n, n, -1), func(*api.Regs) {}, store(v-1, 1, v))
		wantRan(t, code(opSw, n, n, 4), func(*api.Regs) {}, store(v+4, 4, v))
		wantRan(t, code(opAddi, n, n, -1), func(r *api.Regs) { r.R[n]-- })
		wantRan(t, code(opMov, n, n, 1), func(*api.Regs) {})
		wantRan(t, code(opSub, n, n, 1), func(r *api.Regs) { r.R[n], r.Flags = 0, zero+r.Flags/step*step })
		wantRan(t, code(opCmp, n, n, 1), func(r *api.Regs) { r.Flags = zero + r.Flags/step*step })
	}
}
