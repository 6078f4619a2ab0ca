package cpu_test

import (
	"slices"
	"testing"

	"halter/api"
	"halter/cpu"
)

// taken are the sums of Zero, Minus, Carry and Over under which each jump is taken.
var taken = []struct {
	op    int
	flags []uint32
}{
	{opJmp, []uint32{0, 1, 2, 3, 4, 5, 6, 7, 8, 9, 10, 11, 12, 13, 14, 15}},
	{opJz, []uint32{1, 3, 5, 7, 9, 11, 13, 15}},
	{opJnz, []uint32{0, 2, 4, 6, 8, 10, 12, 14}},
	{opJlt, []uint32{2, 3, 6, 7, 8, 9, 12, 13}},
	{opJge, []uint32{0, 1, 4, 5, 10, 11, 14, 15}},
	{opJc, []uint32{4, 5, 6, 7, 12, 13, 14, 15}},
}

// target is where a jump goes from home.
func target(imm int) uint32 {
	return uint32((int64(home) + 4 + 4*int64(imm) + 1<<32) % (1 << 32))
}

// CP1: jumps on, back, to where they are and to what is next, taken by the flags alone, which they leave.
func TestJumps(t *testing.T) {
	for _, j := range taken {
		for _, imm := range edges {
			for _, ab := range [][2]int{{0, 0}, {3, 9}, {15, 15}} {
				wantRan(t, code(j.op, ab[0], ab[1], imm), func(r *api.Regs) {
					if slices.Contains(j.flags, r.Flags&15) {
						r.PC = target(imm)
					}
				})
			}
		}
	}
}

// CP1: Call leaves in R[14] what is next, and goes on as a jump that is taken.
func TestCall(t *testing.T) {
	for _, imm := range edges {
		for _, ab := range [][2]int{{0, 0}, {3, 9}, {14, 14}, {15, 15}} {
			wantRan(t, code(opCall, ab[0], ab[1], imm), func(r *api.Regs) { r.R[14], r.PC = home+4, target(imm) })
		}
	}
}

// CP1: Jr goes to a register, whatever its address; the fetch there is another step's affair.
func TestJr(t *testing.T) {
	for a := range 16 {
		for _, imm := range []int{-32768, -1, 0, 1, 32767} {
			wantRan(t, code(opJr, a, 15-a, imm), func(r *api.Regs) { r.PC = r.R[a] })
		}
		for _, to := range []uint32{0, 1, 2, 3, 4, home, home + 4, 0x7fffffff, 0x80000000, 0xfffffffc, 0xfffffffd, 0xffffffff} {
			before := filled(0)
			before.R[a] = to
			after := before
			after.PC = to
			wantStep(t, &recorder{code: code(opJr, a, 0, 7)}, before, after, cpu.Event{}, []asking{fetch(home)})
		}
	}
}

// CP1: jumps by hand, their sums going beyond 2^32 - 1 and below 0.
func TestJumpsByHand(t *testing.T) {
	for _, w := range []struct {
		pc  uint32
		imm int
		to  uint32
	}{
		{0, 0, 4}, {0, -1, 0}, {0, 1, 8}, {0, -2, 0xfffffffc}, {0, 32767, 131072}, {0, -32768, 0xfffe0004}, {4, -3, 0xfffffffc}, {4, -2, 0},
		{100, -1, 100}, {100, 0, 104}, {100, 5, 124}, {100, -5, 84}, {131068, -32768, 0}, {0xfffffffc, 0, 0}, {0xfffffffc, -1, 0xfffffffc}, {0xfffffffc, 1, 4},
		{0xfffffff8, 0, 0xfffffffc}, {0xfffffff8, 1, 0}, {0xfffffffc, 32767, 131068}, {0xfffffffc, -32768, 0xfffe0000}, {0x7ffffffc, 0, 0x80000000}, {0x80000000, -2, 0x7ffffffc},
	} {
		before := filled(0)
		before.PC = w.pc
		after := before
		after.PC = w.to
		wantStep(t, &recorder{code: code(opJmp, 0, 0, w.imm)}, before, after, cpu.Event{}, []asking{fetch(w.pc)})
		after.R[14] = w.pc + 4
		wantStep(t, &recorder{code: code(opCall, 0, 0, w.imm)}, before, after, cpu.Event{}, []asking{fetch(w.pc)})
	}
}

// CP1: what is next behind the last instruction of all is the first one.
func TestNextBeyond(t *testing.T) {
	for _, op := range []int{opNop, opLi, opAdd, opAddi, opLw, opSw, opFadd, opFld, opFlags} {
		before := api.Regs{PC: 0xfffffffc, Flags: step}
		got, e := cpu.Step(&recorder{code: code(op, 0, 0, 0)}, before)
		if got.PC != 0 || e != (cpu.Event{Kind: cpu.Stepped}) {
			t.Errorf("operation %d at fffffffc: PC %x, event %v", op, got.PC, e)
		}
	}
}

// CP1: PC must be divisible by 4, and nothing is fetched where it is not.
func TestPC(t *testing.T) {
	for _, from := range []uint32{0, 4, 8, home, 0x7ffffffc, 0x80000000, 0xfffffff8, 0xfffffffc} {
		for past := range uint32(4) {
			before := filled(0)
			before.PC = from + past
			if past > 0 {
				wantFailed(t, &recorder{code: code(opNop, 0, 0, 0)}, before, bus, from+past)
				wantFailed(t, &recorder{code: 0xffffffff}, before, bus, from+past)
				continue
			}
			after := before
			after.PC = from + 4
			wantStep(t, &recorder{code: code(opNop, 0, 0, 0)}, before, after, cpu.Event{}, []asking{fetch(from)})
		}
	}
}

// CP2: Sys and Brk have events of their own, also with Step set, and PC is at what is next.
func TestSysAndBrk(t *testing.T) {
	for _, w := range []struct{ op, kind int }{{opSys, cpu.Called}, {opBrk, cpu.Broke}} {
		for _, imm := range edges {
			for flags := range uint32(32) {
				before := filled(flags)
				after := before
				after.PC = home + 4
				wantStep(t, &recorder{code: code(w.op, 3, 12, imm)}, before, after, cpu.Event{Kind: w.kind}, []asking{fetch(home)})
			}
		}
	}
}

// CP2: it is Step before the instruction that counts, and Step alone: each operation under each sum of flags.
func TestEvents(t *testing.T) {
	for op := range ops {
		for flags := range uint32(32) {
			want := ran(flags)
			switch op {
			case opSys:
				want.Kind = cpu.Called
			case opBrk:
				want.Kind = cpu.Broke
			}
			got, e := cpu.Step(&recorder{code: code(op, 1, 2, 0)}, filled(flags))
			if e != want || got.Flags&step != flags&step {
				t.Errorf("operation %d, flags %d: event %v, want %v; flags then %d", op, flags, e, want, got.Flags)
			}
		}
	}
}
