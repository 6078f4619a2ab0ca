package alu_test

import (
	"math"
	"slices"
	"testing"

	"halter/alu"
	"halter/api"
	"halter/soft"
)

// floats are numbers of every kind, with both signs, and what is no number.
func floats() []uint64 {
	l := []uint64{
		nought, small, 2, 0x000fffffffffffff, 0x0010000000000000, half, one - 1, one, one + 1, onehalf, two, three, four, six,
		0x3fb999999999999a, 0x400921fb54442d18, 0x41dfffffffc00000, 0x41e0000000000000, 0x4330000000000001, 0x7fe0000000000000, great, endless,
		0x00000000ffffffff, 0x0000000100000000, 0x0123456789abcdef, 0x3ff00000ffffffff,
	}
	for _, a := range l {
		l = append(l, a|minus)
	}
	return slices.Concat(l, nones)
}

// AL2: what an operation makes of two floats, by the bits.
func TestFloat(t *testing.T) {
	for _, r := range []struct {
		op      int
		a, b, v uint64
	}{
		{opFadd, one, two, three}, {opFadd, two, one, three}, {opFadd, one, one | minus, nought}, {opFadd, one | minus, two | minus, three | minus},
		{opFadd, nought, nought, nought}, {opFadd, nought, minus, nought}, {opFadd, minus, nought, nought}, {opFadd, minus, minus, minus}, {opFadd, minus, one, one},
		{opFadd, endless, one, endless}, {opFadd, one, endless | minus, endless | minus}, {opFadd, endless, endless, endless}, {opFadd, endless, endless | minus, empty},
		{opFadd, great, great, endless}, {opFadd, small, small, 2}, {opFadd, one, small, one},
		{opFsub, three, two, one}, {opFsub, two, three, one | minus}, {opFsub, one, one, nought}, {opFsub, one, one | minus, two},
		{opFsub, nought, nought, nought}, {opFsub, minus, minus, nought}, {opFsub, minus, nought, minus}, {opFsub, nought, minus, nought}, {opFsub, nought, one, one | minus},
		{opFsub, endless, endless, empty}, {opFsub, endless, endless | minus, endless}, {opFsub, one, endless, endless | minus}, {opFsub, endless | minus, one, endless | minus},
		{opFmul, two, three, six}, {opFmul, two, three | minus, six | minus}, {opFmul, one | minus, one | minus, one}, {opFmul, three, half, onehalf},
		{opFmul, nought, one, nought}, {opFmul, nought, one | minus, minus}, {opFmul, minus, one, minus}, {opFmul, minus, minus, nought},
		{opFmul, nought, endless, empty}, {opFmul, endless, minus, empty}, {opFmul, endless, two | minus, endless | minus}, {opFmul, great, two, endless}, {opFmul, small, half, nought},
		{opFdiv, six, two, three}, {opFdiv, two, four, half}, {opFdiv, three, two, onehalf}, {opFdiv, one, three, 0x3fd5555555555555}, {opFdiv, two, three | minus, 0xbfe5555555555555},
		{opFdiv, one, nought, endless}, {opFdiv, one, minus, endless | minus}, {opFdiv, one | minus, nought, endless | minus}, {opFdiv, nought, one, nought}, {opFdiv, nought, one | minus, minus},
		{opFdiv, nought, nought, empty}, {opFdiv, minus, nought, empty}, {opFdiv, endless, endless, empty}, {opFdiv, endless, nought, endless}, {opFdiv, one, endless, nought}, {opFdiv, one | minus, endless, minus},
	} {
		wantFloat(t, r.op, r.a, r.b, r.v)
	}
}

// AL2: what is no number makes nothing that is one, on either side, and always the same bits.
func TestFloatOfNone(t *testing.T) {
	for _, none := range nones {
		for _, a := range floats() {
			for _, op := range floatOps[:4] {
				wantFloat(t, op, a, none, empty)
				wantFloat(t, op, none, a, empty)
			}
			wantFloat(t, opFsqrt, a, none, empty)
		}
	}
}

// AL2: the root is that of the second float; the first one tells nothing.
func TestRoot(t *testing.T) {
	roots := [][2]uint64{
		{four, two}, {one, one}, {0x4022000000000000, three}, {two, 0x3ff6a09e667f3bcd}, {0x3fd0000000000000, half}, {0x4002000000000000, onehalf},
		{nought, nought}, {minus, minus}, {endless, endless}, {small, 0x1e60000000000000}, {great, 0x5fefffffffffffff},
		{one | minus, empty}, {four | minus, empty}, {small | minus, empty}, {great | minus, empty}, {endless | minus, empty}, {empty, empty}, {empty | minus, empty},
	}
	for _, r := range roots {
		for _, a := range floats() {
			wantFloat(t, opFsqrt, a, r[0], r[1])
		}
	}
}

// AL2: Float answers what layer 2 does.
func TestFloatAsSoft(t *testing.T) {
	for _, a := range floats() {
		for _, b := range floats() {
			wantFloat(t, opFadd, a, b, soft.Add(a, b))
			wantFloat(t, opFsub, a, b, soft.Sub(a, b))
			wantFloat(t, opFmul, a, b, soft.Mul(a, b))
			wantFloat(t, opFdiv, a, b, soft.Div(a, b))
			wantFloat(t, opFsqrt, a, b, soft.Sqrt(b))
		}
	}
}

// AL2: an operation that Float doesn't know is a wrong argument; so are those of floats that are not reckoned here.
func TestFloatStrangers(t *testing.T) {
	for _, op := range strangers(floatOps) {
		for _, a := range floats() {
			for _, b := range []uint64{nought, minus, one, four | minus, endless, empty} {
				if v, err := alu.Float(op, a, b); v != 0 || !isErrno(err, api.ErrArg) {
					t.Fatalf("Float(%d, %s, %s): %s, %v, want 0, %v", op, hex(a), hex(b), hex(v), err, api.ErrArg)
				}
			}
		}
	}
}

// AL2: which flags are set when two floats are held against each other; Over never, and Step as it was.
func TestCmp(t *testing.T) {
	for _, r := range []struct {
		a, b uint64
		want uint32
	}{
		{one, one, z}, {nought, nought, z}, {nought, minus, z}, {minus, nought, z}, {minus, minus, z}, {small, small, z}, {great | minus, great | minus, z},
		{endless, endless, z}, {endless | minus, endless | minus, z},
		{one, two, m}, {one | minus, one, m}, {two | minus, one | minus, m}, {nought, small, m}, {minus, small, m}, {small | minus, nought, m}, {small | minus, minus, m},
		{one, one + 1, m}, {great, endless, m}, {endless | minus, endless, m}, {endless | minus, great | minus, m}, {endless | minus, minus, m},
		{two, one, 0}, {one, one | minus, 0}, {one | minus, two | minus, 0}, {small, nought, 0}, {small, minus, 0}, {nought, small | minus, 0}, {minus, small | minus, 0},
		{one + 1, one, 0}, {endless, great, 0}, {endless, endless | minus, 0}, {great | minus, endless | minus, 0}, {nought, endless | minus, 0},
		{empty, one, c}, {one, empty, c}, {empty, empty, c}, {empty | minus, nought, c}, {minus, 0x7ff0000000000001, c}, {endless, empty, c}, {0xffffffffffffffff, endless | minus, c},
	} {
		for _, flags := range allFlags() {
			wantCmp(t, r.a, r.b, flags, r.want|flags&16)
		}
	}
}

// AL2: the same of many pairs, held as floats.
func TestCmpOfMany(t *testing.T) {
	for _, a := range floats() {
		for _, b := range floats() {
			want := uint32(0)
			switch x, y := math.Float64frombits(a), math.Float64frombits(b); {
			case x < y:
				want = m
			case x == y:
				want = z
			case x != x || y != y:
				want = c
			}
			for _, flags := range someFlags {
				wantCmp(t, a, b, flags, want|flags&16)
			}
		}
	}
}

// AL2 and AL3: behind a comparison of floats, Jlt is taken if the first is less, Jz if they are equal, Jc if one is no number.
func TestJumpsBehindFloats(t *testing.T) {
	for _, a := range floats() {
		for _, b := range floats() {
			x, y := math.Float64frombits(a), math.Float64frombits(b)
			for _, before := range someFlags {
				flags := alu.Cmp(a, b, before)
				wantTaken(t, opJmp, flags, true)
				wantTaken(t, opJz, flags, x == y)
				wantTaken(t, opJnz, flags, x != y)
				wantTaken(t, opJlt, flags, x < y)
				wantTaken(t, opJge, flags, !(x < y))
				wantTaken(t, opJc, flags, x != x || y != y)
			}
		}
	}
}
