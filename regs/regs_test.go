package regs_test

import (
	"bytes"
	"errors"
	"math"
	"strconv"
	"testing"

	"halter/api"
	"halter/regs"
)

const flagsWord = 17

// The numbers of a word that the chapter's edges are.
var edges = []uint32{0, 1, 31, 32, 255, 256, 0x12345678, 2147483647, 2147483648, 4294967295}

// Flags that registers may have, and those that they may not; some of these are right modulo 2^5, 2^8 or 2^16.
var (
	goodFlags = []uint32{0, 1, 2, 4, 8, 15, 16, 21, 30, 31}
	badFlags  = []uint32{32, 33, 63, 64, 127, 128, 255, 256, 257, 1 << 15, 1 << 16, 1<<16 + 1, 1 << 24, 2147483647, 2147483648, 2147483649, 4294967264, 4294967295}
)

// Numbers of words that there are not; some are right modulo 2^5, 2^8, 2^16, 2^32 or 26.
var badWords = []int{
	math.MinInt, math.MinInt + 17, -1 << 32, 1 - 1<<32, math.MinInt32, -65536, -256, -104, -32, -27, -26, -25, -18, -17, -16, -2, -1,
	26, 27, 28, 31, 32, 33, 43, 49, 52, 57, 104, 255, 256, 273, 65536, math.MaxInt32, 1 << 31, 1 << 32, 1<<32 + 17, 1<<32 + 25, math.MaxInt - 1, math.MaxInt,
}

// Floats by their bits: both noughts, what is endless, what is no number (quiet or not, with either sign), and some others.
var floats = []uint64{
	0, 0x8000000000000000, 0x7ff0000000000000, 0xfff0000000000000,
	0x7ff8000000000000, 0xfff8000000000000, 0x7ff0000000000001, 0xfff0000000000001, 0x7ff4000000000000, 0x7ff8000000000001,
	0x7fffffffffffffff, 0xffffffffffffffff, 0x7ff80000deadbeef, 0xfff7ffffffffffff,
	1, 0x3ff0000000000000, 0x00000000ffffffff, 0xffffffff00000000, 0x0000000080000000, 0x0000000100000000, 0x0123456789abcdef,
}

// counted are registers whose bytes are 1, 2, 3 and so on, but for those of Flags.
func counted() api.Regs {
	return api.Regs{
		R: [16]uint32{
			0x04030201, 0x08070605, 0x0c0b0a09, 0x100f0e0d, 0x14131211, 0x18171615, 0x1c1b1a19, 0x201f1e1d,
			0x24232221, 0x28272625, 0x2c2b2a29, 0x302f2e2d, 0x34333231, 0x38373635, 0x3c3b3a39, 0x403f3e3d,
		},
		PC:    0x44434241,
		Flags: 0x15,
		F:     [4]uint64{0x504f4e4d4c4b4a49, 0x5857565554535251, 0x605f5e5d5c5b5a59, 0x6867666564636261},
	}
}

// countedBytes are those of counted.
func countedBytes() []byte {
	b := make([]byte, 104)
	for i := range b {
		b[i] = byte(i + 1)
	}
	copy(b[68:], []byte{0x15, 0, 0, 0})
	return b
}

// model is the chapter's list of the words, written out.
func model(r api.Regs) []uint32 {
	return []uint32{
		r.R[0], r.R[1], r.R[2], r.R[3], r.R[4], r.R[5], r.R[6], r.R[7],
		r.R[8], r.R[9], r.R[10], r.R[11], r.R[12], r.R[13], r.R[14], r.R[15],
		r.PC, r.Flags,
		uint32(r.F[0] % (1 << 32)), uint32(r.F[0] / (1 << 32)),
		uint32(r.F[1] % (1 << 32)), uint32(r.F[1] / (1 << 32)),
		uint32(r.F[2] % (1 << 32)), uint32(r.F[2] / (1 << 32)),
		uint32(r.F[3] % (1 << 32)), uint32(r.F[3] / (1 << 32)),
	}
}

// modelBytes are the bytes of words, by division.
func modelBytes(words []uint32) []byte {
	var b []byte
	for _, v := range words {
		for range 4 {
			b = append(b, byte(v%256))
			v /= 256
		}
	}
	return b
}

// same registers with another number as their Flags.
func flagged(r api.Regs, flags uint32) api.Regs {
	r.Flags = flags
	return r
}

// goods are registers that are valid.
func goods() []api.Regs {
	l := []api.Regs{{}, counted(), {F: [4]uint64{7}}}
	for _, v := range edges {
		full := uint64(v)<<32 + uint64(v)
		r := api.Regs{PC: v, F: [4]uint64{full, full, full, full}}
		for i := range r.R {
			r.R[i] = v
		}
		l = append(l, r)
	}
	for i := range floats {
		r := counted()
		for k := range r.F {
			r.F[k] = floats[(i+k)%len(floats)]
		}
		l = append(l, r)
	}
	for _, flags := range goodFlags {
		l = append(l, flagged(counted(), flags), api.Regs{Flags: flags})
	}
	return l
}

// bads are registers that are not valid.
func bads() []api.Regs {
	var l []api.Regs
	for _, flags := range badFlags {
		l = append(l, flagged(counted(), flags), api.Regs{Flags: flags})
	}
	return l
}

func isArg(err error) bool {
	var no api.Errno
	return errors.As(err, &no) && no == api.ErrArg
}

func wantRegs(t *testing.T, what string, r api.Regs, err error, want api.Regs) {
	t.Helper()
	if r != want || err != nil {
		t.Errorf("%s: %x, %v, want %x", what, r, err, want)
	}
}

func wantNoRegs(t *testing.T, what string, r api.Regs, err error) {
	t.Helper()
	if r != (api.Regs{}) || !isArg(err) {
		t.Errorf("%s: %x, %v, want nothing and %v", what, r, err, api.ErrArg)
	}
}

func wantEncode(t *testing.T, r api.Regs, want []byte) {
	t.Helper()
	if b, err := regs.Encode(r); !bytes.Equal(b, want) || err != nil {
		t.Errorf("Encode(%x): %x, %v, want %x", r, b, err, want)
	}
}

func wantDecode(t *testing.T, b []byte, want api.Regs) {
	t.Helper()
	r, err := regs.Decode(b)
	wantRegs(t, "Decode("+strconv.Itoa(len(b))+" bytes)", r, err, want)
}

func wantNoDecode(t *testing.T, b []byte) {
	t.Helper()
	r, err := regs.Decode(b)
	wantNoRegs(t, "Decode("+strconv.Itoa(len(b))+" bytes)", r, err)
}

func wantGet(t *testing.T, r api.Regs, n int, want uint32) {
	t.Helper()
	if v, err := regs.Get(r, n); v != want || err != nil {
		t.Errorf("Get(%x, %d): %#x, %v, want %#x", r, n, v, err, want)
	}
}

func setText(n int, v uint32) string {
	return "Set(" + strconv.Itoa(n) + ", " + strconv.FormatUint(uint64(v), 16) + ")"
}

func wantSet(t *testing.T, r api.Regs, n int, v uint32, want api.Regs) {
	t.Helper()
	got, err := regs.Set(r, n, v)
	wantRegs(t, setText(n, v), got, err, want)
}

func wantNoSet(t *testing.T, r api.Regs, n int, v uint32) {
	t.Helper()
	got, err := regs.Set(r, n, v)
	wantNoRegs(t, setText(n, v), got, err)
}

func TestRG1Constants(t *testing.T) {
	if regs.Size != 104 || regs.Words != 26 {
		t.Errorf("Size %d, Words %d, want 104 and 26", regs.Size, regs.Words)
	}
}

func TestRG1Check(t *testing.T) {
	for flags := range uint32(32) {
		if err := regs.Check(api.Regs{Flags: flags}); err != nil {
			t.Errorf("Check of Flags %d: %v", flags, err)
		}
	}
	for _, r := range goods() {
		if err := regs.Check(r); err != nil {
			t.Errorf("Check(%x): %v", r, err)
		}
	}
}

func TestRG1CheckWrong(t *testing.T) {
	for _, r := range bads() {
		if err := regs.Check(r); !isArg(err) {
			t.Errorf("Check(%x): %v, want %v", r, err, api.ErrArg)
		}
	}
	for bit := 5; bit < 32; bit++ {
		for low := range uint32(32) {
			flags := uint32(1)<<bit + low
			if err := regs.Check(api.Regs{Flags: flags}); !isArg(err) {
				t.Errorf("Check of Flags %#x: %v, want %v", flags, err, api.ErrArg)
			}
		}
	}
}

func TestRG1Encode(t *testing.T) {
	wantEncode(t, counted(), countedBytes())
	wantEncode(t, api.Regs{}, make([]byte, 104))
	wantEncode(t, flagged(api.Regs{}, 31), append(append(make([]byte, 68), 31), make([]byte, 35)...))
	last := api.Regs{F: [4]uint64{3: 0x8000000000000000}}
	wantEncode(t, last, append(make([]byte, 103), 0x80))
	full := bytes.Repeat([]byte{0xff}, 104)
	copy(full[68:], []byte{31, 0, 0, 0})
	all := api.Regs{PC: math.MaxUint32, Flags: 31, F: [4]uint64{math.MaxUint64, math.MaxUint64, math.MaxUint64, math.MaxUint64}}
	for i := range all.R {
		all.R[i] = math.MaxUint32
	}
	wantEncode(t, all, full)
}

func TestRG1EncodeModel(t *testing.T) {
	for _, r := range goods() {
		wantEncode(t, r, modelBytes(model(r)))
	}
}

func TestRG1EncodeWrong(t *testing.T) {
	for _, r := range bads() {
		if b, err := regs.Encode(r); len(b) != 0 || !isArg(err) {
			t.Errorf("Encode(%x): %x, %v, want nothing and %v", r, b, err, api.ErrArg)
		}
	}
}

func TestRG1Decode(t *testing.T) {
	wantDecode(t, countedBytes(), counted())
	wantDecode(t, make([]byte, 104), api.Regs{})
	for _, r := range goods() {
		wantDecode(t, modelBytes(model(r)), r)
	}
}

// One byte that is set, in each place: it is found in that one part of the registers.
func TestRG1DecodeEachByte(t *testing.T) {
	for place := range 104 {
		for _, v := range []byte{1, 16, 31, 32, 127, 128, 255} {
			b := make([]byte, 104)
			b[place] = v
			part, shift := place/4, 8*(place%4)
			var want api.Regs
			switch {
			case part < 16:
				want.R[part] = uint32(v) << shift
			case part == 16:
				want.PC = uint32(v) << shift
			case part == 17:
				want.Flags = uint32(v) << shift
			default:
				want.F[(place-72)/8] = uint64(v) << (8 * (place % 8))
			}
			if want.Flags >= 32 {
				wantNoDecode(t, b)
			} else {
				wantDecode(t, b, want)
			}
		}
	}
}

func TestRG1DecodeWrongLength(t *testing.T) {
	wantNoDecode(t, nil)
	for n := range 420 {
		if n != 104 {
			wantNoDecode(t, make([]byte, n))
		}
	}
	for _, n := range []int{103, 105, 208} {
		wantNoDecode(t, append(countedBytes(), make([]byte, 104)...)[:n])
	}
	for _, n := range []int{1 << 10, 1<<16 + 104, 1<<20 + 104} {
		wantNoDecode(t, make([]byte, n))
	}
}

// What lies behind the bytes is not read, and what there is too little of is not taken from there.
func TestRG1DecodeSpare(t *testing.T) {
	b := append(countedBytes(), bytes.Repeat([]byte{0xff}, 104)...)
	wantDecode(t, b[:104], counted())
	wantNoDecode(t, b[:103])
	wantNoDecode(t, b[:0])
}

func TestRG1DecodeWrongFlags(t *testing.T) {
	for _, r := range bads() {
		wantNoDecode(t, modelBytes(model(r)))
	}
	for bit := 5; bit < 32; bit++ {
		b := countedBytes()
		b[68+bit/8] |= 1 << (bit % 8)
		wantNoDecode(t, b)
	}
}

func TestRG1Get(t *testing.T) {
	r := counted()
	for n, want := range []uint32{
		0x04030201, 0x08070605, 0x0c0b0a09, 0x100f0e0d, 0x14131211, 0x18171615, 0x1c1b1a19, 0x201f1e1d,
		0x24232221, 0x28272625, 0x2c2b2a29, 0x302f2e2d, 0x34333231, 0x38373635, 0x3c3b3a39, 0x403f3e3d,
		0x44434241, 0x15,
		0x4c4b4a49, 0x504f4e4d, 0x54535251, 0x58575655, 0x5c5b5a59, 0x605f5e5d, 0x64636261, 0x68676665,
	} {
		wantGet(t, r, n, want)
	}
}

func TestRG1GetFirstFloat(t *testing.T) {
	wantGet(t, api.Regs{F: [4]uint64{7}}, 18, 7)
	wantGet(t, api.Regs{F: [4]uint64{7}}, 19, 0)
	wantGet(t, api.Regs{F: [4]uint64{0x3ff0000000000000}}, 18, 0)
	wantGet(t, api.Regs{F: [4]uint64{0x3ff0000000000000}}, 19, 0x3ff00000)
}

func TestRG1GetModel(t *testing.T) {
	for _, r := range goods() {
		for n, want := range model(r) {
			wantGet(t, r, n, want)
		}
	}
}

func TestRG1GetWrong(t *testing.T) {
	for _, r := range []api.Regs{{}, counted(), flagged(counted(), 32)} {
		for _, n := range badWords {
			if v, err := regs.Get(r, n); v != 0 || !isArg(err) {
				t.Errorf("Get(%d): %#x, %v, want 0 and %v", n, v, err, api.ErrArg)
			}
		}
	}
}

// Get has no error but that of n, so it also reads registers that are not valid.
func TestRG1GetOfInvalid(t *testing.T) {
	for _, r := range bads() {
		for n, want := range model(r) {
			wantGet(t, r, n, want)
		}
	}
}

func TestRG1Set(t *testing.T) {
	for i := range 16 {
		want := counted()
		want.R[i] = 0xfedcba98
		wantSet(t, counted(), i, 0xfedcba98, want)
	}
	want := counted()
	want.PC = 0xfedcba98
	wantSet(t, counted(), 16, 0xfedcba98, want)
	for _, flags := range goodFlags {
		wantSet(t, counted(), flagsWord, flags, flagged(counted(), flags))
	}
	for n, f := range map[int][4]uint64{
		18: {0x504f4e4dfedcba98, 0x5857565554535251, 0x605f5e5d5c5b5a59, 0x6867666564636261},
		19: {0xfedcba984c4b4a49, 0x5857565554535251, 0x605f5e5d5c5b5a59, 0x6867666564636261},
		20: {0x504f4e4d4c4b4a49, 0x58575655fedcba98, 0x605f5e5d5c5b5a59, 0x6867666564636261},
		21: {0x504f4e4d4c4b4a49, 0xfedcba9854535251, 0x605f5e5d5c5b5a59, 0x6867666564636261},
		22: {0x504f4e4d4c4b4a49, 0x5857565554535251, 0x605f5e5dfedcba98, 0x6867666564636261},
		23: {0x504f4e4d4c4b4a49, 0x5857565554535251, 0xfedcba985c5b5a59, 0x6867666564636261},
		24: {0x504f4e4d4c4b4a49, 0x5857565554535251, 0x605f5e5d5c5b5a59, 0x68676665fedcba98},
		25: {0x504f4e4d4c4b4a49, 0x5857565554535251, 0x605f5e5d5c5b5a59, 0xfedcba9864636261},
	} {
		want := counted()
		want.F = f
		wantSet(t, counted(), n, 0xfedcba98, want)
	}
}

func TestRG1SetWrongWord(t *testing.T) {
	for _, r := range []api.Regs{{}, counted(), flagged(counted(), 32)} {
		for _, n := range badWords {
			for _, v := range []uint32{0, 1, 31, 32, math.MaxUint32} {
				wantNoSet(t, r, n, v)
			}
		}
	}
}

func TestRG1SetWrongFlags(t *testing.T) {
	for _, r := range goods() {
		for _, flags := range badFlags {
			wantNoSet(t, r, flagsWord, flags)
		}
	}
}

// The result has to be valid, not what was handed in: word 17 can be mended, and another word leaves Flags wrong.
func TestRG1SetOfInvalid(t *testing.T) {
	for _, r := range bads() {
		for _, flags := range goodFlags {
			wantSet(t, r, flagsWord, flags, flagged(r, flags))
		}
		for _, flags := range badFlags {
			wantNoSet(t, r, flagsWord, flags)
		}
		for n := range 26 {
			if n != flagsWord {
				wantNoSet(t, r, n, 0)
				wantNoSet(t, r, n, 31)
			}
		}
	}
}

func TestRG1SetLeavesItsArgument(t *testing.T) {
	for n := range 26 {
		r := counted()
		if got, err := regs.Set(r, n, 30); got == r || err != nil {
			t.Errorf("Set(%d): %x, %v, want other registers", n, got, err)
		}
		if r != counted() {
			t.Errorf("Set(%d) changed the registers that it was given: %x", n, r)
		}
	}
}

func TestRG1EncodeIsNewMemory(t *testing.T) {
	r := counted()
	first, err := regs.Encode(r)
	second, _ := regs.Encode(r)
	if err != nil {
		t.Fatal(err)
	}
	first = append(first[:cap(first)], 1)
	for i := range first {
		first[i] = 0xee
	}
	if !bytes.Equal(second, countedBytes()) {
		t.Errorf("two answers of Encode share memory: %x", second)
	}
	if r != counted() {
		t.Errorf("Encode and the registers share memory: %x", r)
	}
	wantEncode(t, r, countedBytes())
}

func TestRG1DecodeKeepsNothing(t *testing.T) {
	b := countedBytes()
	r, err := regs.Decode(b)
	wantRegs(t, "Decode", r, err, counted())
	if !bytes.Equal(b, countedBytes()) {
		t.Errorf("Decode changed its bytes: %x", b)
	}
	for i := range b {
		b[i] = 0xee
	}
	if r != counted() {
		t.Errorf("the registers share memory with the bytes that they came of: %x", r)
	}
	wantDecode(t, countedBytes(), counted())
	short := countedBytes()[:103]
	wantNoDecode(t, short)
	if !bytes.Equal(short[:104], countedBytes()) {
		t.Errorf("Decode changed bytes that are too few: %x", short[:104])
	}
}

func TestRG2DecodeUndoesEncode(t *testing.T) {
	for _, r := range goods() {
		b, err := regs.Encode(r)
		if err != nil || len(b) != 104 {
			t.Fatalf("Encode(%x): %x, %v", r, b, err)
		}
		wantDecode(t, b, r)
	}
}

// Every float in every place, in words, in bytes and back.
func TestRG2FloatsComeBack(t *testing.T) {
	for _, f := range floats {
		for i := range 4 {
			want := counted()
			want.F[i] = f
			half, err := regs.Set(counted(), 18+2*i, uint32(f))
			if err != nil {
				t.Fatal(err)
			}
			wantSet(t, half, 19+2*i, uint32(f>>32), want)
			wantGet(t, want, 18+2*i, uint32(f))
			wantGet(t, want, 19+2*i, uint32(f>>32))
			b, _ := regs.Encode(want)
			wantDecode(t, b, want)
		}
	}
}

func TestRG2GetAfterSet(t *testing.T) {
	for _, r := range goods() {
		for n := range 26 {
			for _, v := range edges {
				if n == flagsWord && v >= 32 {
					continue
				}
				got, err := regs.Set(r, n, v)
				if err != nil {
					t.Fatalf("Set(%x, %d, %#x): %v", r, n, v, err)
				}
				want := model(r)
				want[n] = v
				for k, w := range want {
					wantGet(t, got, k, w)
				}
				wantEncode(t, got, modelBytes(want))
			}
		}
	}
}

// Registers that are made word by word, from the first or from the last one on, are those that the words were got from.
func TestRG2WordByWord(t *testing.T) {
	for _, r := range goods() {
		var up, down api.Regs
		var err error
		for i := range 26 {
			if up, err = regs.Set(up, i, model(r)[i]); err != nil {
				t.Fatalf("Set: %v", err)
			}
			if down, err = regs.Set(down, 25-i, model(r)[25-i]); err != nil {
				t.Fatalf("Set: %v", err)
			}
		}
		if up != r || down != r {
			t.Errorf("word by word: %x and %x, want %x", up, down, r)
		}
	}
}

// The same calls have the same answers, also after calls with errors.
func TestRG2Again(t *testing.T) {
	for range 5 {
		wantGet(t, counted(), 16, 0x44434241)
		wantSet(t, counted(), flagsWord, 7, flagged(counted(), 7))
		wantNoSet(t, counted(), flagsWord, 32)
		wantNoSet(t, counted(), 26, 7)
		wantEncode(t, counted(), countedBytes())
		wantNoDecode(t, countedBytes()[:100])
		wantDecode(t, countedBytes(), counted())
	}
}
