package sigset_test

import (
	"errors"
	"fmt"
	"math"
	"slices"
	"strings"
	"testing"

	"halter/api"
	"halter/sigset"
)

const (
	top = 1 << 31 // the bit that belongs to no signal
	all = top - 1 // every signal
)

// sets are the empty one, each of one signal, all but each, and some in no order.
func sets() []sigset.Set {
	l := []sigset.Set{0, all, 0x101, 0x2aaaaaaa, 0x55555555, 0x12345678, 0x7fff0000, 0xffff, 0x01234567, 0x09abcdef}
	for bit := range 31 {
		l = append(l, 1<<bit, all-1<<bit)
	}
	v := uint32(1)
	for range 200 {
		v = v*1664525 + 1013904223
		l = append(l, sigset.Set(v)&all)
	}
	return l
}

// strangers are numbers that are no signal; most are a signal modulo 32, 64, 2^8, 2^16 or 2^32.
func strangers() []int {
	return []int{
		math.MinInt, math.MinInt + 1, -1 << 32, 1 - 1<<32, math.MinInt32, -256, -255, -64, -63, -33, -32, -31, -9, -2, -1, 0,
		32, 33, 34, 41, 62, 63, 64, 65, 95, 96, 97, 256, 257, 1<<16 + 1, math.MaxInt32, 1 << 31, 1 << 32, 1<<32 + 1, 1<<32 + 31, math.MaxInt - 1, math.MaxInt,
	}
}

// members are the signals of a set, told by division: nothing that sigset itself uses.
func members(s sigset.Set) []int {
	var l []int
	for sig := 1; sig <= 31; sig++ {
		if s%2 == 1 {
			l = append(l, sig)
		}
		s /= 2
	}
	return l
}

// gather is the set with these signals.
func gather(l []int) sigset.Set {
	var s sigset.Set
	for _, sig := range l {
		weight := sigset.Set(1)
		for range sig - 1 {
			weight *= 2
		}
		s += weight
	}
	return s
}

func wantArg(t *testing.T, what string, err error) {
	t.Helper()
	var no api.Errno
	if !errors.As(err, &no) || no != api.ErrArg {
		t.Errorf("%s: error %v, want %v", what, err, api.ErrArg)
	}
}

func TestSG1One(t *testing.T) {
	for sig, want := range map[int]sigset.Set{1: 1, 2: 2, 3: 4, 9: 0x100, 16: 0x8000, 30: 0x20000000, 31: 0x40000000} {
		if got := sigset.One(sig); got != want {
			t.Errorf("One(%d): %#x, want %#x", sig, got, want)
		}
	}
	for sig := 1; sig <= api.MaxSig; sig++ {
		if got, want := sigset.One(sig), gather([]int{sig}); got != want {
			t.Errorf("One(%d): %#x, want %#x", sig, got, want)
		}
	}
}

func TestSG1Add(t *testing.T) {
	for _, c := range []struct {
		s    sigset.Set
		sig  int
		want sigset.Set
	}{
		{0, 1, 1}, {0, 31, 0x40000000}, {1, 9, 0x101}, {0x101, 9, 0x101}, {0x100, 1, 0x101},
		{all - 1, 1, all}, {all, 1, all}, {all, 31, all}, {0x3fffffff, 31, all},
		{top, 1, 1}, {top, 31, 0x40000000}, {top | 1, 9, 0x101}, {top | all, 31, all},
	} {
		if got := sigset.Add(c.s, c.sig); got != c.want {
			t.Errorf("Add(%#x, %d): %#x, want %#x", c.s, c.sig, got, c.want)
		}
	}
	for _, s := range sets() {
		for sig := 1; sig <= api.MaxSig; sig++ {
			l := members(s)
			if !slices.Contains(l, sig) {
				l = append(l, sig)
			}
			if got, want := sigset.Add(s, sig), gather(l); got != want {
				t.Errorf("Add(%#x, %d): %#x, want %#x", s, sig, got, want)
			}
		}
	}
}

func TestSG1Del(t *testing.T) {
	for _, c := range []struct {
		s    sigset.Set
		sig  int
		want sigset.Set
	}{
		{0, 1, 0}, {0, 31, 0}, {1, 1, 0}, {0x101, 9, 1}, {0x101, 1, 0x100}, {0x101, 2, 0x101},
		{all, 1, all - 1}, {all, 31, 0x3fffffff}, {0x40000000, 31, 0},
		{top, 1, 0}, {top, 31, 0}, {top | 1, 1, 0}, {top | 0x101, 2, 0x101}, {top | all, 31, 0x3fffffff},
	} {
		if got := sigset.Del(c.s, c.sig); got != c.want {
			t.Errorf("Del(%#x, %d): %#x, want %#x", c.s, c.sig, got, c.want)
		}
	}
	for _, s := range sets() {
		for sig := 1; sig <= api.MaxSig; sig++ {
			l := slices.DeleteFunc(members(s), func(other int) bool { return other == sig })
			if got, want := sigset.Del(s, sig), gather(l); got != want {
				t.Errorf("Del(%#x, %d): %#x, want %#x", s, sig, got, want)
			}
		}
	}
}

func TestSG1Has(t *testing.T) {
	for _, c := range []struct {
		s    sigset.Set
		sig  int
		want bool
	}{
		{0, 1, false}, {0, 31, false}, {1, 1, true}, {1, 2, false}, {2, 1, false}, {0x101, 9, true}, {0x101, 8, false},
		{0x40000000, 31, true}, {0x40000000, 30, false}, {0x3fffffff, 31, false}, {all, 1, true}, {all, 31, true},
		{top, 31, false}, {top, 1, false}, {top | 1, 1, true},
	} {
		if got := sigset.Has(c.s, c.sig); got != c.want {
			t.Errorf("Has(%#x, %d): %v, want %v", c.s, c.sig, got, c.want)
		}
	}
	for _, s := range sets() {
		for sig := 1; sig <= api.MaxSig; sig++ {
			if got, want := sigset.Has(s, sig), slices.Contains(members(s), sig); got != want {
				t.Errorf("Has(%#x, %d): %v, want %v", s, sig, got, want)
			}
		}
	}
}

func TestSG1NoSignal(t *testing.T) {
	for _, sig := range strangers() {
		if got := sigset.One(sig); got != 0 {
			t.Errorf("One(%d): %#x, want 0", sig, got)
		}
		for _, s := range sets() {
			for _, given := range []sigset.Set{s, s | top} {
				if got := sigset.Add(given, sig); got != s {
					t.Errorf("Add(%#x, %d): %#x, want %#x", given, sig, got, s)
				}
				if got := sigset.Del(given, sig); got != s {
					t.Errorf("Del(%#x, %d): %#x, want %#x", given, sig, got, s)
				}
				if sigset.Has(given, sig) {
					t.Errorf("Has(%#x, %d)", given, sig)
				}
			}
		}
	}
}

func TestSG1FirstCountList(t *testing.T) {
	for s, want := range map[sigset.Set][]int{
		0: nil, 1: {1}, 0x101: {1, 9}, 0x100: {9}, 0x40000000: {31}, 0x40000001: {1, 31}, 0x60000006: {2, 3, 30, 31},
		all: {1, 2, 3, 4, 5, 6, 7, 8, 9, 10, 11, 12, 13, 14, 15, 16, 17, 18, 19, 20, 21, 22, 23, 24, 25, 26, 27, 28, 29, 30, 31},
	} {
		checkAsked(t, s, want)
		checkAsked(t, s|top, want)
	}
	for _, s := range sets() {
		checkAsked(t, s, members(s))
		checkAsked(t, s|top, members(s))
	}
}

func checkAsked(t *testing.T, s sigset.Set, want []int) {
	t.Helper()
	first := 0
	if len(want) > 0 {
		first = want[0]
	}
	if got := sigset.First(s); got != first {
		t.Errorf("First(%#x): %d, want %d", s, got, first)
	}
	if got := sigset.Count(s); got != len(want) {
		t.Errorf("Count(%#x): %d, want %d", s, got, len(want))
	}
	if got := sigset.List(s); !slices.Equal(got, want) {
		t.Errorf("List(%#x): %v, want %v", s, got, want)
	}
}

func TestSG1ListIsNew(t *testing.T) {
	for _, s := range []sigset.Set{1, 0x101, 0x1f, all} {
		first, second := sigset.List(s), sigset.List(s)
		first = first[:cap(first)]
		for i := range first {
			first[i] = -1
		}
		if !slices.Equal(second, members(s)) || !slices.Equal(sigset.List(s), members(s)) {
			t.Errorf("two answers of List(%#x) share memory: %v", s, second)
		}
	}
}

// The top bit changes no answer, and is in none.
func TestSG1TopBit(t *testing.T) {
	for _, s := range sets() {
		for sig := 1; sig <= api.MaxSig; sig++ {
			if got, want := sigset.Add(s|top, sig), sigset.Add(s, sig); got != want || got&top != 0 {
				t.Errorf("Add(%#x, %d): %#x, want %#x", s|top, sig, got, want)
			}
			if got, want := sigset.Del(s|top, sig), sigset.Del(s, sig); got != want || got&top != 0 {
				t.Errorf("Del(%#x, %d): %#x, want %#x", s|top, sig, got, want)
			}
			if got, want := sigset.Has(s|top, sig), sigset.Has(s, sig); got != want {
				t.Errorf("Has(%#x, %d): %v, want %v", s|top, sig, got, want)
			}
		}
	}
}

func TestSG2Text(t *testing.T) {
	for s, want := range map[sigset.Set]string{
		0: "00000000", 1: "00000001", 0x101: "00000101", 0x40000000: "40000000", all: "7fffffff",
		0x1234567: "01234567", 0x9abcdef: "09abcdef", 0x0f0f0f0f: "0f0f0f0f", 0x76543210: "76543210", 0xa: "0000000a",
	} {
		if got := sigset.Text(s); got != want {
			t.Errorf("Text(%#x): %q, want %q", s, got, want)
		}
		if got := sigset.Text(s | top); got != want {
			t.Errorf("Text(%#x): %q, want %q", s|top, got, want)
		}
	}
	for _, s := range sets() {
		if got, want := sigset.Text(s), fmt.Sprintf("%08x", uint32(s)); got != want {
			t.Errorf("Text(%#x): %q, want %q", s, got, want)
		}
	}
}

func TestSG2Parse(t *testing.T) {
	for text, want := range map[string]sigset.Set{
		"00000000": 0, "00000001": 1, "00000101": 0x101, "40000000": 0x40000000, "7fffffff": all,
		"01234567": 0x1234567, "09abcdef": 0x9abcdef, "76543210": 0x76543210, "0000000a": 0xa,
	} {
		if got, err := sigset.Parse(text); got != want || err != nil {
			t.Errorf("Parse(%q): %#x, %v, want %#x", text, got, err, want)
		}
	}
}

func checkNoSet(t *testing.T, text string) {
	t.Helper()
	s, err := sigset.Parse(text)
	wantArg(t, fmt.Sprintf("Parse(%q)", text), err)
	if s != 0 {
		t.Errorf("Parse(%q): %#x beside an error", text, s)
	}
}

func TestSG2ParseWrongText(t *testing.T) {
	for n := range 20 {
		if n != 8 {
			checkNoSet(t, strings.Repeat("0", n))
			checkNoSet(t, strings.Repeat("1", n))
		}
	}
	for _, text := range []string{
		"101", "0000101", "000000101", "0x000101", "0X000101", "+0000101", "-0000101", "-0000001", " 0000101", "0000101 ", "00000101\n", "0000 101", "0000_101",
		"0000010A", "0000010F", "ABCDEF00", "7FFFFFFF", "7fffffffF", "0000010g", "0000010/", "0000010:", "0000010`", "0000010@",
		"80000000", "80000001", "8fffffff", "90000000", "a0000000", "c0000000", "f0000000", "ffffffff", "080000000", "100000000", "000000001",
		"０0000", "00000é1", "\xff0000000", "0000000\x00", strings.Repeat("0", 1000), strings.Repeat("f", api.MaxText),
	} {
		checkNoSet(t, text)
	}
}

// Each byte is tried in each place; sixteen of them are digits.
func TestSG2ParseEveryByte(t *testing.T) {
	for place := range 8 {
		for b := range 256 {
			text := []byte("00000000")
			text[place] = byte(b)
			digit := strings.IndexByte("0123456789abcdef", byte(b))
			if digit < 0 || place == 0 && digit >= 8 {
				checkNoSet(t, string(text))
				continue
			}
			want := sigset.Set(digit) << (28 - 4*place)
			if got, err := sigset.Parse(string(text)); got != want || err != nil {
				t.Errorf("Parse(%q): %#x, %v, want %#x", text, got, err, want)
			}
		}
	}
}

func TestSG3AddAndDel(t *testing.T) {
	for _, s := range sets() {
		for sig := 1; sig <= api.MaxSig; sig++ {
			more, less := sigset.Add(s, sig), sigset.Del(s, sig)
			if !sigset.Has(more, sig) {
				t.Errorf("Add(%#x, %d): %#x, without the signal", s, sig, more)
			}
			if sigset.Has(less, sig) {
				t.Errorf("Del(%#x, %d): %#x, with the signal", s, sig, less)
			}
			for other := 1; other <= api.MaxSig; other++ {
				was := sigset.Has(s, other)
				if other != sig && (sigset.Has(more, other) != was || sigset.Has(less, other) != was) {
					t.Errorf("Add or Del(%#x, %d): %#x, %#x, signal %d did not stay", s, sig, more, less, other)
				}
			}
		}
	}
}

func TestSG3ParseUndoesText(t *testing.T) {
	for _, s := range sets() {
		for _, given := range []sigset.Set{s, s | top} {
			if got, err := sigset.Parse(sigset.Text(given)); got != s || err != nil {
				t.Errorf("Parse(Text(%#x)): %#x, %v, want %#x", given, got, err, s)
			}
		}
	}
}
