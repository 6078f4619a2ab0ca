package cpu_test

import (
	"testing"

	"halter/api"
	"halter/cpu"
)

// Floats by their bits.
const (
	nought  = 0
	sign    = 1 << 63 // alone, it is -0
	half    = 0x3fe0000000000000
	one     = 0x3ff0000000000000
	two     = 0x4000000000000000
	three   = 0x4008000000000000
	four    = 0x4010000000000000
	six     = 0x4018000000000000
	seven   = 0x401c000000000000
	nine    = 0x4022000000000000
	endless = 0x7ff0000000000000
	empty   = 0x7ff8000000000000
)

// The registers of floats, and others at the bounds.
var registers = []int{0, 1, 2, 3, 4, 5, 7, 8, 12, 15}

// CP1: Fld loads two words, the less significant half first, from addresses that are divisible by 8.
func TestFld(t *testing.T) {
	for a := range 4 {
		for b := range 16 {
			for _, imm := range edges {
				at := filled(0).R[b] + signed(imm)
				if imm%8 != 0 {
					wantFailed(t, &recorder{code: code(opFld, a, b, imm)}, filled(0), bus, at, fetch(home))
					continue
				}
				f := uint64(loaded(at+4, 4))<<32 + uint64(loaded(at, 4))
				wantRan(t, code(opFld, a, b, imm), func(r *api.Regs) { r.F[a] = f }, load(at, 4), load(at+4, 4))
			}
		}
	}
}

// CP1: Fst stores two words, the less significant half first, at addresses that are divisible by 8.
func TestFst(t *testing.T) {
	halves := [4][2]uint32{{0x00000011, 0x3ff80000}, {0x00000022, 0xc0020000}, {0x20000000, 0x4202a05f}, {0x9999999a, 0xbfb99999}}
	for a := range 4 {
		for b := range 16 {
			for _, imm := range edges {
				at := filled(0).R[b] + signed(imm)
				if imm%8 != 0 {
					wantFailed(t, &recorder{code: code(opFst, a, b, imm)}, filled(0), bus, at, fetch(home))
					continue
				}
				wantRan(t, code(opFst, a, b, imm), func(*api.Regs) {}, store(at, 4, halves[a][0]), store(at+4, 4, halves[a][1]))
			}
		}
	}
}

// CP1: addresses of floats are sums modulo 2^32, and it is the sum that has to be divisible by 8.
func TestFloatAddresses(t *testing.T) {
	for _, w := range turns {
		before := filled(0)
		before.R[2] = w.from
		after := before
		after.PC = home + 4
		if w.at%8 != 0 {
			wantFailed(t, &recorder{code: code(opFld, 1, 2, w.imm)}, before, bus, w.at, fetch(home))
			wantFailed(t, &recorder{code: code(opFst, 1, 2, w.imm)}, before, bus, w.at, fetch(home))
			continue
		}
		wantStep(t, &recorder{code: code(opFst, 3, 2, w.imm)}, before, after, cpu.Event{},
			[]asking{fetch(home), store(w.at, 4, 0x9999999a), store(w.at+4, 4, 0xbfb99999)})
		after.F[3] = uint64(loaded(w.at+4, 4))<<32 + uint64(loaded(w.at, 4))
		wantStep(t, &recorder{code: code(opFld, 3, 2, w.imm)}, before, after, cpu.Event{},
			[]asking{fetch(home), load(w.at, 4), load(w.at+4, 4)})
	}
}

// CP1: which of the two registers is one of a float; the other one may be any.
func TestFloatRegisters(t *testing.T) {
	for op := opFld; op <= opItof; op++ {
		for _, a := range registers {
			for _, b := range registers {
				wrong := a > 3 && op != opFtoi || b > 3 && op != opFld && op != opFst && op != opItof
				// Also where the address is not divisible: the register counts first.
				for _, imm := range []int{0, 1, 4, -1} {
					v := code(op, a, b, imm)
					if wrong {
						wantFailed(t, &recorder{code: v}, filled(0), ill, home, fetch(home))
						continue
					}
					_, e := cpu.Step(&recorder{code: v}, filled(0))
					if isMoved := op == opFld || op == opFst; (e.Kind == cpu.Failed) != (isMoved && imm != 0) || e.Sig == ill {
						t.Errorf("%s: event %v", instr(v), e)
					}
				}
			}
		}
	}
}

// A floatSum is what an operation makes of two floats, by hand.
type floatSum struct {
	op      int
	a, b, v uint64
}

var floatSums = []floatSum{
	{opFadd, one, two, three},
	{opFadd, sign, sign, sign},
	{opFadd, endless, endless | sign, empty},
	{opFsub, two, three, one | sign},
	{opFsub, three, two, one},
	{opFsub, two, two, nought},
	{opFmul, two, three, six},
	{opFmul, two | sign, nought, sign},
	{opFdiv, six, two, three},
	{opFdiv, two, four, half},
	{opFdiv, one, nought, endless},
	{opFdiv, nought, nought, empty},
	{opFsqrt, seven, nine, three},
	{opFsqrt, nine, four, two},
	{opFsqrt, one, sign, sign},
	{opFsqrt, four, one | sign, empty},
	{opFsqrt, empty, four, two},
}

// CP1: operations of two floats by hand: the first one becomes the result, and the flags stay.
func TestFloatSumsByHand(t *testing.T) {
	for _, w := range floatSums {
		for a := range 4 {
			b := (a + 3) % 4
			for flags := range uint32(32) {
				before := filled(flags)
				before.F[a], before.F[b] = w.a, w.b
				after := before
				after.F[a], after.PC = w.v, home+4
				for _, imm := range []int{-32768, -1, 0, 1, 32767} {
					wantStep(t, &recorder{code: code(w.op, a, b, imm)}, before, after, ran(flags), []asking{fetch(home)})
				}
			}
		}
	}
}

// CP1: a float with itself.
func TestFloatWithItself(t *testing.T) {
	results := []struct {
		op int
		v  uint64
	}{{opFadd, 0x4020000000000000}, {opFsub, nought}, {opFmul, 0x4030000000000000}, {opFdiv, one}, {opFsqrt, two}}
	for _, w := range results {
		for n := range 4 {
			before := filled(15)
			before.F[n] = four
			after := before
			after.F[n], after.PC = w.v, home+4
			wantStep(t, &recorder{code: code(w.op, n, n, 0)}, before, after, cpu.Event{}, []asking{fetch(home)})
		}
	}
}

// CP1: Fcmp sets the flags anew, but for Step, and leaves both floats, also those that are no number.
func TestFcmp(t *testing.T) {
	for _, w := range []struct {
		a, b  uint64
		flags uint32
	}{
		{one, two, minus}, {two, one, 0}, {two, two, zero}, {nought, sign, zero}, {sign, nought, zero}, {one | sign, one, minus}, {one, one | sign, 0},
		{empty, one, carry}, {one, empty, carry}, {empty, empty, carry}, {0xfff0000000000001, one, carry}, {endless, one, 0}, {one, endless, minus},
	} {
		for a := range 4 {
			b := (a + 1) % 4
			for flags := range uint32(32) {
				before := filled(flags)
				before.F[a], before.F[b] = w.a, w.b
				after := before
				after.Flags, after.PC = w.flags+flags/step*step, home+4
				wantStep(t, &recorder{code: code(opFcmp, a, b, -1)}, before, after, ran(flags), []asking{fetch(home)})
			}
		}
	}
}

// CP1: Fcmp of a float with itself.
func TestFcmpWithItself(t *testing.T) {
	for n := range 4 {
		wantRan(t, code(opFcmp, n, n, 0), func(r *api.Regs) { r.Flags = zero + r.Flags/step*step })
	}
}

// wholes are floats and what is whole of them, as words.
var wholes = []struct {
	f uint64
	v uint32
}{
	{nought, 0}, {sign, 0}, {one, 1}, {one | sign, 0xffffffff}, {half, 0}, {0x3ff8000000000000, 1}, {0xbff8000000000000, 0xffffffff}, {seven | sign, 0xfffffff9},
	{endless, 0x7fffffff}, {endless | sign, 0x80000000}, {empty, 0}, {0x7ff0000000000001, 0}, {0x41e0000000000000, 0x7fffffff}, {0xc1e0000000000000, 0x80000000},
}

// CP1: Ftoi makes a word of a float, in every register; the flags stay.
func TestFtoi(t *testing.T) {
	for _, w := range wholes {
		for a := range 16 {
			for b := range 4 {
				for _, flags := range []uint32{0, 15, 16, 31} {
					before := filled(flags)
					before.F[b] = w.f
					after := before
					after.R[a], after.PC = w.v, home+4
					wantStep(t, &recorder{code: code(opFtoi, a, b, 1)}, before, after, ran(flags), []asking{fetch(home)})
				}
			}
		}
	}
}

// CP1: Itof makes a float of a word with its sign, of every register; the flags stay.
func TestItof(t *testing.T) {
	for _, w := range []struct {
		v uint32
		f uint64
	}{
		{0, nought}, {1, one}, {7, seven}, {0xffffffff, one | sign}, {0xfffffff9, seven | sign}, {0x7fffffff, 0x41dfffffffc00000}, {0x80000000, 0xc1e0000000000000},
	} {
		for a := range 4 {
			for b := range 16 {
				for _, flags := range []uint32{0, 15, 16, 31} {
					before := filled(flags)
					before.R[b] = w.v
					after := before
					after.F[a], after.PC = w.f, home+4
					wantStep(t, &recorder{code: code(opItof, a, b, 1)}, before, after, ran(flags), []asking{fetch(home)})
				}
			}
		}
	}
}
