package image_test

import (
	"bytes"
	"errors"
	"fmt"
	"math"
	"slices"
	"testing"
	"unsafe"

	"halter/api"
	"halter/image"
)

func prog(entry uint32, segs ...image.Seg) image.Image { return image.Image{Entry: entry, Segs: segs} }

func seg(from, to int, perm uint8, data ...byte) image.Seg {
	return image.Seg{From: from, To: to, Perm: perm, Data: data}
}

// filled is a Seg with so many bytes of Data, no two neighbours of which are alike.
func filled(from, to int, perm uint8, many int) image.Seg {
	return seg(from, to, perm, counted(many)...)
}

// counted are so many bytes; those of a page are others than those of the next one.
func counted(many int) []byte {
	b := make([]byte, many)
	for n := range b {
		b[n] = byte(n + n/256 + n/65521 + 1)
	}
	return b
}

// shown is a program as a message tells it: of much Data only how it begins.
func shown(i image.Image) string {
	s := fmt.Sprintf("%#x", i.Entry)
	for n, g := range i.Segs {
		if n == 12 {
			return s + fmt.Sprintf(" and more: %d Segs", len(i.Segs))
		}
		s += fmt.Sprintf(" [%d %d) %d %d:%x", g.From, g.To, g.Perm, len(g.Data), g.Data[:min(len(g.Data), 8)])
	}
	return s
}

func shownBytes(b []byte) string {
	return fmt.Sprintf("%d bytes %x", len(b), b[:min(len(b), 120)])
}

func same(i, j image.Image) bool {
	return i.Entry == j.Entry && slices.EqualFunc(i.Segs, j.Segs, func(s, o image.Seg) bool {
		return s.From == o.From && s.To == o.To && s.Perm == o.Perm && bytes.Equal(s.Data, o.Data)
	})
}

func cloned(i image.Image) image.Image {
	i.Segs = slices.Clone(i.Segs)
	for n := range i.Segs {
		i.Segs[n].Data = bytes.Clone(i.Segs[n].Data)
	}
	return i
}

// number is that of an error; 0: there is none, -1: it has none.
func number(err error) int {
	var no api.Errno
	switch {
	case err == nil:
		return 0
	case errors.As(err, &no) && no != 0:
		return int(no)
	}
	return -1
}

// around is how many bytes, and how many Segs, lie ahead of what is lent, and behind it as its spare room.
const around = 3

// lentBytes are bytes as they are handed in, in the midst of other ones, and what tells whether these and those are as they were.
func lentBytes(b []byte) ([]byte, func() bool) {
	whole := bytes.Repeat([]byte{0xee}, len(b)+2*around)
	given := whole[around : around+len(b)]
	copy(given, b)
	before := bytes.Clone(whole)
	return given, func() bool { return bytes.Equal(whole, before) }
}

// lent is a program as it is handed in, in the midst of other Segs and bytes, and what tells whether it and they are as they were.
func lent(i image.Image) (image.Image, func() bool) {
	whole := make([]image.Seg, len(i.Segs)+2*around)
	stay := make([]func() bool, len(whole))
	for n := range whole {
		whole[n] = seg(n, n+1, 5, 0xdd)
		if k := n - around; k >= 0 && k < len(i.Segs) {
			whole[n] = i.Segs[k]
		}
		whole[n].Data, stay[n] = lentBytes(whole[n].Data)
	}
	before := slices.Clone(whole)
	i.Segs = whole[around : around+len(i.Segs)]
	return i, func() bool {
		for n, s := range whole {
			was := before[n]
			if s.From != was.From || s.To != was.To || s.Perm != was.Perm || !areOne(s.Data, was.Data) || !stay[n]() {
				return false
			}
		}
		return true
	}
}

// areOne tells whether bytes are the same ones, in the same place.
func areOne(b, c []byte) bool {
	return unsafe.SliceData(b) == unsafe.SliceData(c) && len(b) == len(c) && cap(b) == cap(c)
}

func scribble(b []byte) {
	b = b[:cap(b)]
	for n := range b {
		b[n] = 0x77
	}
}

// scribbleOver writes over all of a program, its spare room too.
func scribbleOver(i image.Image) {
	l := i.Segs[:cap(i.Segs)]
	for n := range l {
		scribble(l[n].Data)
		l[n] = seg(-7, -8, 77, 0x77)
	}
}

// check calls Check.
func check(t *testing.T, i image.Image) int {
	t.Helper()
	given, stays := lent(i)
	no := number(image.Check(given))
	if !stays() {
		t.Errorf("Check(%s): its argument is %s now", shown(i), shown(given))
	}
	return no
}

// encode calls Encode. The program that it is given must stay as it is, and what is answered is written over afterwards: whoever shares any of it has other bytes then.
func encode(t *testing.T, i image.Image) ([]byte, int) {
	t.Helper()
	given, stays := lent(i)
	b, err := image.Encode(given)
	got := bytes.Clone(b)
	scribble(b)
	if !stays() {
		t.Errorf("Encode(%s): its argument is %s now", shown(i), shown(given))
	}
	return got, number(err)
}

// decode calls Decode, in the same way.
func decode(t *testing.T, b []byte) (image.Image, int) {
	t.Helper()
	given, stays := lentBytes(b)
	i, err := image.Decode(given)
	got := cloned(i)
	scribbleOver(i)
	if !stays() {
		t.Errorf("Decode(%s): its argument is %s now", shownBytes(b), shownBytes(given))
	}
	return got, number(err)
}

// wantProgram holds Check and Encode of a program against bytes, and Decode of these against the program.
func wantProgram(t *testing.T, i image.Image, want []byte) {
	t.Helper()
	if no := check(t, i); no != 0 {
		t.Fatalf("Check(%s): error %d", shown(i), no)
	}
	if b, no := encode(t, i); no != 0 || !bytes.Equal(b, want) {
		t.Fatalf("Encode(%s): %s, error %d, want %s", shown(i), shownBytes(b), no, shownBytes(want))
	}
	if d, no := decode(t, want); no != 0 || !same(d, i) {
		t.Fatalf("Decode(%s): %s, error %d, want %s", shownBytes(want), shown(d), no, shown(i))
	}
}

// wantNoProgram holds Check and Encode of a program that is not valid.
func wantNoProgram(t *testing.T, i image.Image) {
	t.Helper()
	if no := check(t, i); no != 8 {
		t.Fatalf("Check(%s): error %d, want 8", shown(i), no)
	}
	if b, no := encode(t, i); no != 8 || len(b) > 0 {
		t.Fatalf("Encode(%s): %s, error %d, want error 8", shown(i), shownBytes(b), no)
	}
}

// wantNoBytes holds Decode of bytes that are those of no program.
func wantNoBytes(t *testing.T, b []byte) {
	t.Helper()
	if d, no := decode(t, b); no != 8 || !same(d, image.Image{}) {
		t.Fatalf("Decode(%s): %s, error %d, want error 8", shownBytes(b), shown(d), no)
	}
}

// want holds a program against the slow functions, and its bytes too, also if they are those of no valid one; it tells whether the program is valid.
func want(t *testing.T, i image.Image) bool {
	t.Helper()
	valid := slowValid(i)
	if !valid {
		wantNoProgram(t, i)
		wantSlow(t, slowBytes(i))
		return false
	}
	wantProgram(t, i, slowBytes(i))
	return true
}

// wantAs holds a program against what is written by hand, and the slow functions too.
func wantAs(t *testing.T, i image.Image, valid bool) {
	t.Helper()
	if got := want(t, i); got != valid {
		t.Fatalf("%s: valid is %t by the slow one, want %t", shown(i), got, valid)
	}
}

// wantSlow holds Decode against the slow one, and what is decoded back against the bytes; it tells whether they are those of a program.
func wantSlow(t *testing.T, b []byte) bool {
	t.Helper()
	i, ok := slowDecode(b)
	if !ok {
		wantNoBytes(t, b)
		return false
	}
	wantProgram(t, i, b)
	return true
}

// Numbers that are no page of a program: the limits, and numbers that are good ones modulo a power of two.
var farPages = []int{
	math.MinInt, math.MinInt + 1, math.MinInt + 2, math.MinInt + 4080, -1 << 32, -1<<32 + 1, -1<<32 + 2, math.MinInt32, math.MinInt32 + 1, -65536, -65535, -65534, -61456, -4096, -4081, -4080, -257, -256, -255, -16, -2, -1,
	4081, 4082, 4095, 4096, 4097, 8176, 32767, 32768, 65535, 65536, 65537, 65538, 69615, 69616, math.MaxInt32, 1 << 31, 1<<31 + 1, 1<<32 - 1, 1 << 32, 1<<32 + 1, 1<<32 + 2, 1<<32 + 4080, math.MaxInt - 1, math.MaxInt,
}

// goodPages may be From, but for 4080, and To, but for 0.
var goodPages = []int{0, 1, 2, 3, 7, 8, 255, 256, 257, 2040, 4078, 4079, 4080}
