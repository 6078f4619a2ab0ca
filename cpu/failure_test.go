package cpu_test

import (
	"errors"
	"testing"

	"halter/api"
	"halter/cpu"
)

// A wrap is an error about another one.
type wrap struct{ inner error }

func (w wrap) Error() string { return "wrapped: " + w.inner.Error() }

func (w wrap) Unwrap() error { return w.inner }

// A kin says of itself that it is ErrFault.
type kin struct{}

func (kin) Error() string { return "kin" }

func (kin) Is(target error) bool { return target == api.ErrFault }

// A hollow is an error also where there is none of it.
type hollow struct{}

func (*hollow) Error() string { return "hollow" }

// A list is an error that can't be held against another one of its type.
type list []error

func (list) Error() string { return "list" }

// A trap is an error that panics where it is examined.
type trap struct{}

func (trap) Error() string { return "trap" }

func (trap) Is(error) bool { panic("trap") }

// faults are ErrFault, by itself or in another error.
func faults() []error {
	return []error{
		api.ErrFault, api.Errno(14), wrap{api.ErrFault}, wrap{wrap{api.ErrFault}}, &wrap{api.ErrFault}, wrap{errors.Join(api.ErrIO, api.ErrFault)},
		errors.Join(api.ErrFault), errors.Join(api.ErrFault, api.ErrIO), kin{}, wrap{kin{}},
	}
}

// others are errors that are not ErrFault.
func others() []error {
	l := []error{
		wrap{api.ErrIO}, wrap{wrap{api.ErrAccess}}, errors.Join(api.ErrIO, api.ErrArg), errors.New("error 14"), errors.New(""), (*hollow)(nil), list(nil), list{api.ErrFault},
		trap{}, wrap{trap{}},
	}
	for no := -1; no <= 400; no++ {
		if no != 14 {
			l = append(l, api.Errno(no))
		}
	}
	return l
}

// A refusal is an instruction, and where each asking for it goes: the first one is the fetch.
type refusal struct {
	v     uint32
	asked []asking
}

// refusals are instructions of each kind, also of those that ask for nothing but themselves.
func refusals() []refusal {
	r := filled(0)
	l := []refusal{
		{code(opLb, 9, 3, -1), []asking{fetch(home), load(r.R[3]-1, 1)}},
		{code(opLb, 3, 3, 32767), []asking{fetch(home), load(r.R[3]+32767, 1)}},
		{code(opLw, 9, 3, -4), []asking{fetch(home), load(r.R[3]-4, 4)}},
		{code(opSb, 9, 3, 2), []asking{fetch(home), store(r.R[3]+2, 1, r.R[9])}},
		{code(opSw, 9, 3, -32768), []asking{fetch(home), store(r.R[3]-32768, 4, r.R[9])}},
		{code(opFld, 1, 3, 8), []asking{fetch(home), load(r.R[3]+8, 4), load(r.R[3]+12, 4)}},
		{code(opFst, 1, 3, -8), []asking{fetch(home), store(r.R[3]-8, 4, 0x22), store(r.R[3]-4, 4, 0xc0020000)}},
	}
	for op := range ops {
		if op < opLb || op > opSw && op != opFld && op != opFst {
			l = append(l, refusal{code(op, 1, 2, 4), []asking{fetch(home)}})
		}
	}
	return l
}

// CP1: an error of the bus is SEGV if it is ErrFault, and BUS otherwise, at the address that was asked for; the registers
// stay, of a float also if only its second half is refused, and nothing is asked for behind it.
func TestRefusals(t *testing.T) {
	for _, w := range refusals() {
		for n, a := range w.asked {
			for _, err := range faults() {
				wantFailed(t, &recorder{code: w.v, fails: n, err: err}, filled(0), segv, a.at, w.asked[:n+1]...)
			}
			for _, err := range others() {
				wantFailed(t, &recorder{code: w.v, fails: n, err: err}, filled(0), bus, a.at, w.asked[:n+1]...)
			}
		}
	}
}

// CP1: a refused fetch fails whatever instruction would have been fetched, at each PC that is divisible by 4.
func TestRefusedFetch(t *testing.T) {
	for _, pc := range []uint32{0, 4, 256, 0x7ffffffc, 0x80000000, 0xfffffffc} {
		before := filled(0)
		before.PC = pc
		for _, v := range []uint32{0, 0xffffffff, code(opSys, 0, 0, 0), code(opBrk, 0, 0, 0), code(opDiv, 0, 0, 0), code(opFadd, 4, 4, 0)} {
			wantFailed(t, &recorder{code: v, err: api.ErrFault}, before, segv, pc, fetch(pc))
			wantFailed(t, &recorder{code: v, err: api.ErrAccess}, before, bus, pc, fetch(pc))
		}
	}
}

// CP1: refusals about the greatest address: the second half of a float is at the address that was asked for, not at the first one.
func TestRefusalsBeyond(t *testing.T) {
	before := filled(0)
	before.R[7] = 0
	for _, w := range []struct {
		imm int
		at  uint32
	}{{0, 0}, {8, 8}, {-8, 0xfffffff8}, {-32768, 0xffff8000}} {
		halves := []asking{fetch(home), store(w.at, 4, 0x22), store(w.at+4, 4, 0xc0020000)}
		for n := 1; n <= 2; n++ {
			at := w.at + 4*uint32(n-1)
			wantFailed(t, &recorder{code: code(opFst, 1, 7, w.imm), fails: n, err: api.ErrFault}, before, segv, at, halves[:n+1]...)
			wantFailed(t, &recorder{code: code(opFst, 1, 7, w.imm), fails: n, err: api.ErrIO}, before, bus, at, halves[:n+1]...)
		}
	}
}

// CP1: a number whose most significant byte is no operation is ILL, whatever its other parts are.
func TestNoInstruction(t *testing.T) {
	for op := ops; op < 256; op++ {
		for _, rest := range []uint32{0, 1, 0x120005, 0x7fffff, 0x800000, 0xffffff} {
			wantFailed(t, &recorder{code: uint32(op)<<24 + rest}, filled(0), ill, home, fetch(home))
		}
	}
}

// invalid are flags that no registers can have.
var invalid = []uint32{32, 33, 47, 48, 63, 64, 128, 256, 1 << 16, 1 << 31, 0xffffffe0, 0xffffffff}

// CP1: registers that are not valid come back unchanged, and the bus is not asked.
func TestInvalidRegs(t *testing.T) {
	for _, flags := range invalid {
		for _, pc := range []uint32{0, 2, home, 0xffffffff} {
			for _, v := range []uint32{0, 0xffffffff, code(opSys, 0, 0, 0), code(opSw, 0, 0, 0)} {
				before := filled(flags)
				before.PC = pc
				wantStep(t, &recorder{code: v}, before, before, cpu.Event{Kind: cpu.Failed, Sig: bus, At: pc}, nil)
			}
		}
	}
}

func wantNone(t *testing.T, b cpu.Bus, before api.Regs) {
	t.Helper()
	got, e := cpu.Step(b, before)
	if got != before || e != (cpu.Event{Kind: cpu.Failed, Sig: bus, At: before.PC}) {
		t.Errorf("PC %x, flags %d: event %v; %s", before.PC, before.Flags, e, difference(got, before))
	}
}

// CP1: without a bus, nothing can be executed; nor is there one behind a pointer that is nil.
func TestNilBus(t *testing.T) {
	for _, pc := range []uint32{0, 1, 4, home, 0x80000000, 0xfffffffe, 0xffffffff} {
		for flags := range uint32(34) {
			before := filled(flags)
			before.PC = pc
			wantNone(t, nil, before)
			wantNone(t, (*recorder)(nil), before)
		}
	}
	wantNone(t, nil, api.Regs{})
}

// A broken bus panics when it is asked for the time fails.
type broken struct {
	recorder
	with any
}

func (b *broken) panics() {
	if len(b.asked) > b.fails {
		panic(b.with)
	}
}

func (b *broken) Fetch(at uint32) (uint32, error) {
	defer b.panics()
	return b.recorder.Fetch(at)
}

func (b *broken) Load(at uint32, size int) (uint32, error) {
	defer b.panics()
	return b.recorder.Load(at, size)
}

func (b *broken) Store(at uint32, size int, v uint32) error {
	defer b.panics()
	return b.recorder.Store(at, size, v)
}

// General rule 1: a bus that panics doesn't make a step panic: it is a bus that refuses.
func TestPanicOfBus(t *testing.T) {
	for _, w := range refusals() {
		for n, a := range w.asked {
			for _, with := range []any{"text", 14, errors.New("error"), api.ErrFault, api.ErrIO, wrap{api.ErrFault}, nil, struct{}{}, a.at, trap{}} {
				b := &broken{recorder{code: w.v, fails: n}, with}
				got, e := cpu.Step(b, filled(16))
				if got != filled(16) || e != (cpu.Event{Kind: cpu.Failed, Sig: bus, At: a.at}) || len(b.asked) != n+1 {
					t.Errorf("%s, asked %v, panic with %v: event %v; %s", instr(w.v), b.asked, with, e, difference(got, filled(16)))
				}
			}
		}
	}
}
