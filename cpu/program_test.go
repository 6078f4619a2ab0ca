package cpu_test

import (
	"slices"
	"testing"

	"halter/api"
	"halter/cpu"
)

// A memory is a Bus of bytes from address 0 on; behind them there is nothing.
type memory []byte

func (m memory) part(at uint32, size int) ([]byte, error) {
	if int64(at)+int64(size) > int64(len(m)) {
		return nil, wrap{api.ErrFault}
	}
	return m[at : int(at)+size], nil
}

func (m memory) Fetch(at uint32) (uint32, error) { return m.Load(at, 4) }

func (m memory) Load(at uint32, size int) (uint32, error) {
	b, err := m.part(at, size)
	v := uint32(0)
	for i, c := range b {
		v += uint32(c) << (8 * i)
	}
	return v, err
}

func (m memory) Store(at uint32, size int, v uint32) error {
	b, err := m.part(at, size)
	for i := range b {
		b[i] = byte(v >> (8 * i))
	}
	return err
}

// machine is a memory of a page whose first bytes are a program.
func machine(program []uint32) memory {
	m := make(memory, 256)
	for i, v := range program {
		m.Store(uint32(4*i), 4, v)
	}
	return m
}

// finish steps till something else happens than that an instruction ran; it tells how many steps that took.
func finish(t *testing.T, m memory, r api.Regs) (api.Regs, cpu.Event, int) {
	t.Helper()
	for many := 1; many < 1000; many++ {
		after, e := cpu.Step(m, r)
		if e != ran(r.Flags) {
			return after, e, many
		}
		r = after
	}
	t.Fatalf("no end: PC %x", r.PC)
	return r, cpu.Event{}, 0
}

// A run is a program, and what comes of it with registers that are 0 at first.
type run struct {
	name    string
	program []uint32
	after   api.Regs
	event   cpu.Event
	steps   int
}

var runs = []run{
	{
		name: "sum of 1 to 10",
		program: []uint32{
			code(opLi, 1, 0, 10), code(opAdd, 2, 1, 0), code(opAddi, 1, 1, -1), code(opCmp, 1, 0, 0), code(opJnz, 0, 0, -4), code(opSys, 0, 0, 0),
		},
		after: api.Regs{R: [16]uint32{2: 55}, PC: 24, Flags: zero},
		event: cpu.Event{Kind: cpu.Called},
		steps: 42,
	},
	{
		name:    "call and back, twice",
		program: []uint32{code(opLi, 1, 0, 3), code(opCall, 0, 0, 2), code(opCall, 0, 0, 1), code(opBrk, 0, 0, 0), code(opAdd, 1, 1, 0), code(opJr, 14, 0, 0)},
		after:   api.Regs{R: [16]uint32{1: 12, 14: 12}, PC: 16},
		event:   cpu.Event{Kind: cpu.Broke},
		steps:   8,
	},
	{
		// 5 factorial: each call keeps r1 and r14 below r13, and multiplies when those behind it are back.
		name: "calls within calls",
		program: []uint32{
			code(opLi, 13, 0, 256), code(opLi, 1, 0, 5), code(opCall, 0, 0, 1), code(opBrk, 0, 0, 0),
			code(opLi, 2, 0, 1), code(opCmp, 1, 0, 0), code(opJz, 0, 0, 9),
			code(opSw, 1, 13, -4), code(opSw, 14, 13, -8), code(opAddi, 13, 13, -8), code(opAddi, 1, 1, -1), code(opCall, 0, 0, -8),
			code(opAddi, 13, 13, 8), code(opLw, 1, 13, -4), code(opLw, 14, 13, -8), code(opMul, 2, 1, 0), code(opJr, 14, 0, 0),
		},
		after: api.Regs{R: [16]uint32{1: 5, 2: 120, 13: 256, 14: 12}, PC: 16},
		event: cpu.Event{Kind: cpu.Broke},
		// 3 ahead, 8 on each of five ways in, 4 in the innermost call, 5 on each way back, and the end.
		steps: 3 + 5*8 + 4 + 5*5 + 1,
	},
	{
		name: "a float through memory, and its halves",
		program: []uint32{
			code(opLi, 1, 0, 2), code(opItof, 3, 1, 0), code(opFsqrt, 3, 3, 0), code(opFst, 3, 0, 128), code(opLw, 2, 0, 128), code(opLw, 3, 0, 132),
			code(opSb, 1, 0, 135), code(opFld, 0, 0, 128), code(opFcmp, 0, 3, 0), code(opFlags, 4, 0, 0), code(opLb, 5, 0, 134), code(opBrk, 0, 0, 0),
		},
		after: api.Regs{
			R: [16]uint32{1: 2, 2: 0x667f3bcd, 3: 0x3ff6a09e, 4: minus, 5: 0xf6}, PC: 48, Flags: minus,
			F: [4]uint64{0: 0x02f6a09e667f3bcd, 3: 0x3ff6a09e667f3bcd},
		},
		event: cpu.Event{Kind: cpu.Broke},
		steps: 12,
	},
	{
		name:    "an instruction that writes the next one",
		program: []uint32{code(opLui, 1, 0, 0x0120), code(opAddi, 1, 1, 77), code(opSw, 1, 0, 12), code(opDiv, 0, 0, 0), code(opBrk, 0, 0, 0)},
		after:   api.Regs{R: [16]uint32{1: 0x0120004d, 2: 77}, PC: 20},
		event:   cpu.Event{Kind: cpu.Broke},
		steps:   5,
	},
	{
		name:    "to the end of memory",
		program: []uint32{code(opLi, 1, 0, 252), code(opLw, 2, 1, 0), code(opJr, 1, 0, 0)},
		after:   api.Regs{R: [16]uint32{1: 252}, PC: 256},
		event:   cpu.Event{Kind: cpu.Failed, Sig: segv, At: 256},
		steps:   5,
	},
	{
		name:    "a float beside the end of memory",
		program: []uint32{code(opLi, 1, 0, 5), code(opFst, 2, 0, 256)},
		after:   api.Regs{R: [16]uint32{1: 5}, PC: 4},
		event:   cpu.Event{Kind: cpu.Failed, Sig: segv, At: 256},
		steps:   2,
	},
}

// CP1, CP2: programs run to their ends, and with Step set go through the same registers and the same memory.
func TestPrograms(t *testing.T) {
	for _, w := range runs {
		m, stepped := machine(w.program), machine(w.program)
		got, e, many := finish(t, m, api.Regs{})
		if got != w.after || e != w.event || many != w.steps {
			t.Errorf("%s: event %v after %d steps, want %v after %d; %s", w.name, e, many, w.event, w.steps, difference(got, w.after))
		}
		observed, e2, many2 := finish(t, stepped, api.Regs{Flags: step})
		observed.Flags -= step
		if observed != got || e2 != e || many2 != many || !slices.Equal(m, stepped) {
			t.Errorf("%s with Step: event %v after %d steps; %s", w.name, e2, many2, difference(observed, got))
		}
	}
}

// CP1: Call, and Jr back, from the last instruction of all to the first one.
func TestCallBeyond(t *testing.T) {
	before := filled(0)
	before.PC = 0xfffffffc
	called := before
	called.R[14], called.PC = 0, 40
	wantStep(t, &recorder{code: code(opCall, 0, 0, 10)}, before, called, cpu.Event{}, []asking{fetch(0xfffffffc)})
	back := called
	back.PC = 0
	wantStep(t, &recorder{code: code(opJr, 14, 0, 0)}, called, back, cpu.Event{}, []asking{fetch(40)})
}

// General rule 4: steps of two memories, taken in turns, know nothing of each other.
func TestInTurns(t *testing.T) {
	var machines []memory
	var states []api.Regs
	for _, w := range runs {
		machines = append(machines, machine(w.program))
		states = append(states, api.Regs{})
	}
	ended := make([]bool, len(runs))
	for range 1000 {
		for i, w := range runs {
			if ended[i] {
				continue
			}
			r, e := cpu.Step(machines[i], states[i])
			states[i], ended[i] = r, e.Kind != cpu.Ran
			if ended[i] && (r != w.after || e != w.event) {
				t.Errorf("%s: event %v, want %v; %s", w.name, e, w.event, difference(r, w.after))
			}
		}
	}
	if slices.Contains(ended, false) {
		t.Errorf("no end: %v", ended)
	}
}
