package cpu_test

import (
	"testing"

	"halter/alu"
	"halter/api"
	"halter/cpu"
	"halter/soft"
)

const whole = 1 << 32

// A model is what a step should make: it keeps registers as numbers without a bound, and reduces them when they are read.
type model struct {
	r     [16]int64
	f     [4]uint64
	pc    int64
	flags uint32
	asked []asking
}

func modulo(n int64) uint32 { return uint32((n%whole + whole) % whole) }

// A verdict is how a model's step ended: sig is 0 unless it failed.
type verdict struct {
	kind int
	sig  int
	at   int64
}

// want executes the instruction v, going through the chapter rule by rule. The bus is taken never to refuse.
func want(v uint32, before api.Regs) (api.Regs, cpu.Event, []asking) {
	m := model{pc: int64(before.PC), f: before.F, flags: before.Flags}
	for i, n := range before.R {
		m.r[i] = int64(n)
	}
	end := m.start(v)
	if end.sig != 0 {
		return before, cpu.Event{Kind: cpu.Failed, Sig: end.sig, At: modulo(end.at)}, m.asked
	}
	if end.kind == cpu.Ran && before.Flags >= step {
		end.kind = cpu.Stepped
	}
	after := api.Regs{PC: modulo(m.pc), Flags: m.flags, F: m.f}
	for i, n := range m.r {
		after.R[i] = modulo(n)
	}
	return after, cpu.Event{Kind: end.kind}, m.asked
}

func (m *model) start(v uint32) verdict {
	here := m.pc
	if here%4 != 0 {
		return verdict{sig: bus, at: here}
	}
	m.asked = append(m.asked, fetch(modulo(here)))
	op, a, b := int(v>>24), int(v>>20&15), int(v>>16&15)
	imm := int64(v & 0xffff)
	if imm >= 1<<15 {
		imm -= 1 << 16
	}
	m.pc += 4
	switch {
	case op >= ops:
		return verdict{sig: ill, at: here}
	case op >= opFld && op <= opItof:
		return m.float(op, a, b, here, m.r[b]+imm)
	case op >= opLb && op <= opSw:
		return m.access(op, a, m.r[b]+imm)
	case op >= opJmp && op <= opJr:
		m.jump(op, a, m.pc+4*imm)
		return verdict{}
	}
	return m.number(op, a, b, here, imm)
}

func (m *model) number(op, a, b int, here, imm int64) verdict {
	switch op {
	case opNop:
	case opLi:
		m.r[a] = imm
	case opLui:
		m.r[a] = imm * 65536
	case opMov:
		m.r[a] = m.r[b]
	case opAddi:
		m.r[a] = m.r[b] + imm
	case opSys:
		return verdict{kind: cpu.Called}
	case opBrk:
		return verdict{kind: cpu.Broke}
	case opFlags:
		m.r[a] = int64(m.flags % 16)
	default:
		if (op == opDiv || op == opRem) && m.r[b] == 0 {
			return verdict{sig: fpe, at: here}
		}
		v, flags, _ := alu.Do(op, modulo(m.r[a]), modulo(m.r[b]), m.flags)
		m.r[a], m.flags = int64(v), flags
	}
	return verdict{}
}

func (m *model) access(op, a int, at int64) verdict {
	size := 4
	if op == opLb || op == opSb {
		size = 1
	}
	if modulo(at)%uint32(size) != 0 {
		return verdict{sig: bus, at: at}
	}
	if op == opSb || op == opSw {
		m.asked = append(m.asked, store(modulo(at), size, modulo(m.r[a])))
		return verdict{}
	}
	m.asked = append(m.asked, load(modulo(at), size))
	m.r[a] = int64(loaded(modulo(at), size))
	return verdict{}
}

func (m *model) jump(op, a int, there int64) {
	switch op {
	case opCall:
		m.r[14], m.pc = m.pc, there
	case opJr:
		m.pc = m.r[a]
	default:
		if isTaken, _ := alu.Taken(op, m.flags); isTaken {
			m.pc = there
		}
	}
}

func (m *model) float(op, a, b int, here, at int64) verdict {
	isFloatA := op != opFtoi
	isFloatB := op != opFld && op != opFst && op != opItof
	if isFloatA && a > 3 || isFloatB && b > 3 {
		return verdict{sig: ill, at: here}
	}
	switch op {
	case opFld, opFst:
		return m.accessFloat(op, a, at)
	case opFcmp:
		m.flags = alu.Cmp(m.f[a], m.f[b], m.flags)
	case opFtoi:
		m.r[a] = int64(soft.ToInt(m.f[b]))
	case opItof:
		m.f[a] = soft.FromInt(modulo(m.r[b]))
	default:
		m.f[a], _ = alu.Float(op, m.f[a], m.f[b])
	}
	return verdict{}
}

func (m *model) accessFloat(op, a int, at int64) verdict {
	low, high := modulo(at), modulo(at+4)
	if low%8 != 0 {
		return verdict{sig: bus, at: at}
	}
	if op == opFld {
		m.asked = append(m.asked, load(low, 4), load(high, 4))
		m.f[a] = uint64(loaded(low, 4)) + uint64(loaded(high, 4))*whole
		return verdict{}
	}
	m.asked = append(m.asked, store(low, 4, uint32(m.f[a]%whole)), store(high, 4, uint32(m.f[a]/whole)))
	return verdict{}
}

func wantModel(t *testing.T, v uint32, before api.Regs) {
	t.Helper()
	after, e, asked := want(v, before)
	wantStep(t, &recorder{code: v}, before, after, e, asked)
}

// mixed are registers of all kinds: with numbers of their own, with edges, with 0, with floats at the bounds.
func mixed() []api.Regs {
	plain := filled(0)
	edged := filled(0)
	edged.R = [16]uint32{0, 1, 3, 4, 7, 8, 31, 32, 0x7fffffff, 0x80000000, 0xfffffff8, 0xfffffffc, 0xffffffff, 0xffff8000, 0x8000, 12}
	edged.F = [4]uint64{nought, sign, endless, 0xfff0000000000001}
	edged.PC = 0xfffffffc
	equal := filled(0)
	for i := range equal.R {
		equal.R[i] = 0xfffffff8
	}
	equal.F = [4]uint64{one, one, 0xc1e0000000000000, 0x41dfffffffc00000}
	equal.PC = 0
	beside := filled(0)
	for i := range beside.R {
		beside.R[i] += uint32(i)
	}
	return []api.Regs{plain, edged, equal, beside}
}

// CP1, CP2: each operation with every pair of registers, at the edges of its number, and with flags of all kinds.
func TestOfMany(t *testing.T) {
	for _, before := range mixed() {
		for _, flags := range []uint32{0, zero, minus, carry, over, minus + over, step, 31} {
			before.Flags = flags
			for op := range ops + 1 {
				for a := range 16 {
					for b := range 16 {
						for _, imm := range []int{-32768, -8, -1, 0, 1, 4, 32767} {
							wantModel(t, code(op, a, b, imm), before)
						}
					}
				}
			}
		}
	}
}

// CP1: each number of an instruction, for operations that read it.
func TestEachNumber(t *testing.T) {
	for _, op := range []int{opLi, opLui, opAddi, opLb, opLw, opSb, opSw, opJmp, opCall, opFld, opFst} {
		for imm := -32768; imm <= 32767; imm++ {
			for _, before := range mixed()[:2] {
				wantModel(t, code(op, 3, 10, imm), before)
			}
		}
	}
}

// scattered are numbers in no order, always the same ones.
func scattered(many int) []uint32 {
	l := make([]uint32, many)
	v := uint32(2463534242)
	for i := range l {
		v ^= v << 13
		v ^= v >> 17
		v ^= v << 5
		l[i] = v
	}
	return l
}

// CP1, CP2: instructions and registers in no order.
func TestOfScattered(t *testing.T) {
	l := scattered(2000 * 32)
	for ; len(l) > 0; l = l[32:] {
		before := api.Regs{PC: l[16] &^ (l[17] % 4), Flags: l[18] % 32}
		copy(before.R[:], l)
		for i := range before.R {
			before.R[i] >>= l[19] >> i % 32
		}
		for i := range before.F {
			before.F[i] = uint64(l[20+2*i])<<32 + uint64(l[21+2*i])
		}
		for op := range ops {
			for _, v := range l[28:32] {
				wantModel(t, uint32(op)<<24+v%(1<<24), before)
				wantModel(t, uint32(op)<<24+v%(1<<24)&^0xcc0007, before)
			}
		}
	}
}

// CP3: an instruction that fails changes no register; only Sw, Sb and Fst store, and only Lb, Lw and Fld load; each one
// is fetched once, ahead of all else, whether the bus refuses something or not.
func TestConsequences(t *testing.T) {
	for op := range 256 {
		stores := map[int]int{opSb: 1, opSw: 1, opFst: 2}[op]
		loads := map[int]int{opLb: 1, opLw: 1, opFld: 2}[op]
		for _, ab := range [][2]int{{1, 2}, {3, 3}, {4, 0}, {0, 4}, {15, 15}} {
			for fails := range 4 {
				for _, err := range []error{nil, api.ErrFault, api.ErrIO} {
					b := &recorder{code: code(op, ab[0], ab[1], 8), fails: fails, err: err}
					wantConsequences(t, b, stores, loads)
				}
			}
		}
	}
}

func wantConsequences(t *testing.T, b *recorder, stores, loads int) {
	t.Helper()
	before := filled(step)
	got, e := cpu.Step(b, before)
	many := map[string]int{}
	for _, a := range b.asked {
		many[a.what]++
	}
	if many["fetch"] != 1 || b.asked[0].what != "fetch" {
		t.Errorf("%s: asked %v", instr(b.code), b.asked)
	}
	if many["store"] > stores || many["load"] > loads || e.Kind != cpu.Failed && len(b.asked) != 1+stores+loads {
		t.Errorf("%s: asked %v, want %d stores and %d loads", instr(b.code), b.asked, stores, loads)
	}
	if e.Kind == cpu.Failed && (got != before || e.Sig == 0) || e.Kind != cpu.Failed && (got == before || e.Sig != 0 || e.At != 0) {
		t.Errorf("%s: event %v; %s", instr(b.code), e, difference(got, before))
	}
}
