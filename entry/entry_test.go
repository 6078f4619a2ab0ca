package entry_test

import (
	"errors"
	"math"
	"testing"

	"halter/api"
	"halter/entry"
)

// greatest is the greatest number of an entry: Frame 1023, Perm 7, Cow set.
const greatest = 0x3ff8f

// badFrames are Frames that no entry has; most are a frame modulo 2^8, 2^10, 2^16, 2^24 or 2^32.
var badFrames = []int{
	math.MinInt, math.MinInt + 1, -1 << 32, 1 - 1<<32, math.MinInt32, -1 << 24, -65536, -1025, -1024, -1023, -256, -2, -1,
	1024, 1025, 1026, 2047, 2048, 4095, 1 << 16, 1<<16 + 1, 1 << 24, 1<<24 + 1, math.MaxInt32, 1 << 31, 1 << 32, 1<<32 + 1, 1<<32 + 1023,
	1 << 56, 1<<56 + 1, math.MaxInt - 1, math.MaxInt,
}

// badPerms are Perms that no entry has; with some of them, a number would look like another entry's.
var badPerms = []uint8{8, 9, 10, 12, 15, 16, 17, 127, 128, 129, 136, 255}

// goods are all entries that are valid, ascending by their numbers.
func goods() []entry.Entry {
	var l []entry.Entry
	for frame := range 1024 {
		for _, cow := range []bool{false, true} {
			for perm := range uint8(8) {
				l = append(l, entry.Entry{Frame: frame, Perm: perm, Cow: cow})
			}
		}
	}
	return l
}

// bads are entries that are not valid, by their Frame, by their Perm or by both.
func bads() []entry.Entry {
	var l []entry.Entry
	for _, cow := range []bool{false, true} {
		for _, frame := range badFrames {
			for perm := range 256 {
				l = append(l, entry.Entry{Frame: frame, Perm: uint8(perm), Cow: cow})
			}
		}
		for _, frame := range []int{0, 1, 2, 255, 256, 511, 512, 1022, 1023} {
			for perm := 8; perm < 256; perm++ {
				l = append(l, entry.Entry{Frame: frame, Perm: uint8(perm), Cow: cow})
			}
		}
	}
	return l
}

// numbers are those of the valid entries, found by counting: sixteen for each frame, from 128 on.
func numbers() map[uint32]entry.Entry {
	m := map[uint32]entry.Entry{}
	v, within := uint32(128), 0
	for _, e := range goods() {
		m[v] = e
		v, within = v+1, within+1
		if within == 16 {
			v, within = v+240, 0
		}
	}
	return m
}

func isArg(err error) bool {
	var no api.Errno
	return errors.As(err, &no) && no == api.ErrArg
}

func wantCheck(t *testing.T, e entry.Entry) {
	t.Helper()
	if err := entry.Check(e); err != nil {
		t.Errorf("Check(%+v): %v", e, err)
	}
}

func wantEncode(t *testing.T, e entry.Entry, want uint32) {
	t.Helper()
	if v, err := entry.Encode(e); v != want || err != nil {
		t.Errorf("Encode(%+v): %#x, %v, want %#x", e, v, err, want)
	}
}

func wantDecode(t *testing.T, v uint32, want entry.Entry) {
	t.Helper()
	if e, ok, err := entry.Decode(v); e != want || !ok || err != nil {
		t.Errorf("Decode(%#x): %+v, %v, %v, want %+v", v, e, ok, err, want)
	}
}

func wantNoDecode(t *testing.T, v uint32) {
	t.Helper()
	if e, ok, err := entry.Decode(v); e != (entry.Entry{}) || ok || !isArg(err) {
		t.Errorf("Decode(%#x): %+v, %v, %v, want no entry and %v", v, e, ok, err, api.ErrArg)
	}
}

func wantMay(t *testing.T, e entry.Entry, use uint8, want bool) {
	t.Helper()
	if got := entry.May(e, use); got != want {
		t.Errorf("May(%+v, %d): %v, want %v", e, use, got, want)
	}
}

// contained tells whether a use is in a Perm, as its sums are written out.
func contained(perm, use uint8) bool {
	switch use {
	case 1:
		return perm == 1 || perm == 3 || perm == 5 || perm == 7
	case 2:
		return perm == 2 || perm == 3 || perm == 6 || perm == 7
	case 4:
		return perm == 4 || perm == 5 || perm == 6 || perm == 7
	}
	return false
}

func TestEN1Check(t *testing.T) {
	for _, e := range []entry.Entry{
		{}, {Cow: true}, {Perm: 7}, {Perm: 7, Cow: true}, {Frame: 1, Perm: api.Read},
		{Frame: 1023}, {Frame: 1023, Cow: true}, {Frame: 1023, Perm: 7}, {Frame: 1023, Perm: 7, Cow: true},
	} {
		wantCheck(t, e)
	}
	for _, e := range goods() {
		wantCheck(t, e)
	}
}

func TestEN1CheckWrong(t *testing.T) {
	for _, e := range []entry.Entry{
		{Frame: -1}, {Frame: 1024}, {Frame: -1, Perm: 7, Cow: true}, {Frame: 1024, Perm: 7, Cow: true},
		{Perm: 8}, {Perm: 8, Cow: true}, {Frame: 1023, Perm: 8}, {Perm: 255}, {Frame: -1, Perm: 8}, {Frame: 1024, Perm: 8},
	} {
		if err := entry.Check(e); !isArg(err) {
			t.Errorf("Check(%+v): %v, want %v", e, err, api.ErrArg)
		}
	}
	for _, e := range bads() {
		if err := entry.Check(e); !isArg(err) {
			t.Errorf("Check(%+v): %v, want %v", e, err, api.ErrArg)
		}
	}
}

func TestEN1Encode(t *testing.T) {
	for _, c := range []struct {
		e    entry.Entry
		want uint32
	}{
		{entry.Entry{Frame: 1, Perm: api.Read}, 0x181},
		{entry.Entry{}, 0x80},
		{entry.Entry{Perm: api.Read}, 0x81},
		{entry.Entry{Perm: api.Write}, 0x82},
		{entry.Entry{Perm: api.Exec}, 0x84},
		{entry.Entry{Perm: 7}, 0x87},
		{entry.Entry{Cow: true}, 0x88},
		{entry.Entry{Perm: 7, Cow: true}, 0x8f},
		{entry.Entry{Frame: 1}, 0x180},
		{entry.Entry{Frame: 2, Perm: 3, Cow: true}, 0x28b},
		{entry.Entry{Frame: 255, Perm: 5}, 0xff85},
		{entry.Entry{Frame: 256, Perm: 6}, 0x10086},
		{entry.Entry{Frame: 1023}, 0x3ff80},
		{entry.Entry{Frame: 1023, Perm: 7}, 0x3ff87},
		{entry.Entry{Frame: 1023, Cow: true}, 0x3ff88},
		{entry.Entry{Frame: 1023, Perm: 7, Cow: true}, greatest},
	} {
		wantEncode(t, c.e, c.want)
	}
	for v, e := range numbers() {
		wantEncode(t, e, v)
	}
}

func TestEN1EncodeWrong(t *testing.T) {
	for _, e := range bads() {
		if v, err := entry.Encode(e); v != 0 || !isArg(err) {
			t.Errorf("Encode(%+v): %#x, %v, want 0 and %v", e, v, err, api.ErrArg)
		}
	}
}

func TestEN1Decode(t *testing.T) {
	for v, want := range map[uint32]entry.Entry{
		0x80:     {},
		0x81:     {Perm: api.Read},
		0x87:     {Perm: 7},
		0x88:     {Cow: true},
		0x8f:     {Perm: 7, Cow: true},
		0x180:    {Frame: 1},
		0x181:    {Frame: 1, Perm: api.Read},
		0xff8a:   {Frame: 255, Perm: api.Write, Cow: true},
		0x10084:  {Frame: 256, Perm: api.Exec},
		0x3ff80:  {Frame: 1023},
		greatest: {Frame: 1023, Perm: 7, Cow: true},
	} {
		wantDecode(t, v, want)
	}
}

func TestEN1DecodeNothing(t *testing.T) {
	if e, ok, err := entry.Decode(0); e != (entry.Entry{}) || ok || err != nil {
		t.Errorf("Decode(0): %+v, %v, %v, want no entry, false and no error", e, ok, err)
	}
}

// Only the number 0 is no entry without an error; a frame's number alone is wrong.
func TestEN1DecodeWrong(t *testing.T) {
	for _, v := range []uint32{
		1, 7, 8, 15, 16, 127, 144, 145, 151, 152, 159, 160, 192, 255,
		0x100, 0x101, 0x17f, 0x190, 0x1ff, 0x3ff00, 0x3ff7f, greatest + 1, 0x3ffff,
		0x40000, 0x40080, 0x40081, 0x4008f, 0x80080, 0x1000080, 0x1000081, 0x7fffff80, 0x80000000, 0x80000080, 0x80000081, 0xffffff80, 0xffffff8f, math.MaxUint32,
	} {
		wantNoDecode(t, v)
	}
	for frame := range 1024 {
		for _, low := range []int{0, 1, 127, 144, 145, 255} {
			if v := uint32(frame*256 + low); v != 0 {
				wantNoDecode(t, v)
			}
		}
	}
}

// Every number up to twice the greatest one.
func TestEN1DecodeEveryNumber(t *testing.T) {
	known := numbers()
	if len(known) != 16384 {
		t.Fatalf("%d numbers of entries, want 16384", len(known))
	}
	for v := uint32(1); v <= 2*greatest; v++ {
		if want, ok := known[v]; ok {
			wantDecode(t, v, want)
		} else {
			wantNoDecode(t, v)
		}
	}
}

// An entry's number with one more bit above it is no entry's.
func TestEN1DecodeBitsAbove(t *testing.T) {
	for v := range numbers() {
		for bit := 18; bit < 32; bit++ {
			wantNoDecode(t, v+1<<bit)
		}
	}
}

func TestEN1May(t *testing.T) {
	for _, c := range []struct {
		perm, use uint8
		want      bool
	}{
		{0, api.Read, false}, {0, api.Write, false}, {0, api.Exec, false},
		{1, api.Read, true}, {1, api.Write, false}, {1, api.Exec, false},
		{2, api.Read, false}, {2, api.Write, true}, {4, api.Exec, true}, {4, api.Read, false},
		{7, api.Read, true}, {7, api.Write, true}, {7, api.Exec, true},
		{3, api.Exec, false}, {5, api.Write, false}, {6, api.Read, false},
	} {
		for _, cow := range []bool{false, true} {
			for _, frame := range []int{0, 1, 1023} {
				wantMay(t, entry.Entry{Frame: frame, Perm: c.perm, Cow: cow}, c.use, c.want)
			}
		}
	}
	for _, e := range goods() {
		for _, use := range []uint8{api.Read, api.Write, api.Exec} {
			wantMay(t, e, use, contained(e.Perm, use))
		}
	}
}

// A use that is not 1, 2 or 4 is none, also where all its bits are contained in Perm.
func TestEN1MayWrongUse(t *testing.T) {
	for use := range 256 {
		if use == 1 || use == 2 || use == 4 {
			continue
		}
		for perm := range uint8(8) {
			for _, cow := range []bool{false, true} {
				for _, frame := range []int{0, 1, 1023} {
					wantMay(t, entry.Entry{Frame: frame, Perm: perm, Cow: cow}, uint8(use), false)
				}
			}
		}
	}
}

func TestEN1MayWrongEntry(t *testing.T) {
	uses := append([]uint8{0, api.Read, api.Write, 3, api.Exec, 5, 6, 7, 8}, badPerms...)
	for _, e := range bads() {
		for _, use := range uses {
			wantMay(t, e, use, false)
		}
	}
}

// Decode answers what was encoded; no number is 0, and no two entries have the same one.
func TestEN2(t *testing.T) {
	seen := map[uint32]entry.Entry{}
	for _, e := range goods() {
		v, err := entry.Encode(e)
		if err != nil {
			t.Fatalf("Encode(%+v): %v", e, err)
		}
		if v == 0 {
			t.Errorf("Encode(%+v): 0", e)
		}
		if other, ok := seen[v]; ok {
			t.Errorf("%+v and %+v have the same number %#x", e, other, v)
		}
		seen[v] = e
		wantDecode(t, v, e)
	}
}

// What is decoded is encoded as the same number.
func TestEN2Back(t *testing.T) {
	many := 0
	for v := range uint32(2 * greatest) {
		e, ok, err := entry.Decode(v)
		if !ok {
			continue
		}
		many++
		if err != nil {
			t.Errorf("Decode(%#x): an entry beside %v", v, err)
		}
		wantCheck(t, e)
		wantEncode(t, e, v)
	}
	if many != 16384 {
		t.Errorf("%d numbers of entries, want 16384", many)
	}
}

// An entry that is not valid has no number, and beside its error nothing is decoded.
func TestEN2Wrong(t *testing.T) {
	for _, frame := range []int{-1, 1024} {
		for _, perm := range []uint8{0, 7, 8} {
			e := entry.Entry{Frame: frame, Perm: perm}
			v, err := entry.Encode(e)
			if !isArg(err) {
				t.Errorf("Encode(%+v): %v, want %v", e, err, api.ErrArg)
			}
			if got, ok, err := entry.Decode(v); got != (entry.Entry{}) || ok || err != nil {
				t.Errorf("Decode(%d), of what Encode(%+v) answers: %+v, %v, %v, want nothing", v, e, got, ok, err)
			}
		}
	}
}

// The same calls have the same answers.
func TestEN2Again(t *testing.T) {
	e := entry.Entry{Frame: 7, Perm: 5, Cow: true}
	for range 5 {
		wantCheck(t, e)
		wantEncode(t, e, 0x78d)
		wantDecode(t, 0x78d, e)
		wantNoDecode(t, 0x70d)
		wantMay(t, e, api.Exec, true)
		wantMay(t, e, api.Write, false)
	}
}
