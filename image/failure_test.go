package image_test

import (
	"bytes"
	"math"
	"slices"
	"testing"

	"halter/image"
)

// ordinary are programs of one to eight Segs, with and without Data.
func ordinary() []image.Image {
	l := []image.Image{
		prog(0, seg(0, 1, 4)),
		prog(0, seg(0, 1, 5, 5, 0, 16, 1)),
		prog(0x10c, seg(1, 2, 7, []byte("hx01")...)),
		prog(0x200, seg(1, 2, 3, 1, 2, 3), seg(2, 3, 5, 4, 5), seg(3, 4080, 0)),
		prog(0xfeffc, seg(0, 1, 2), seg(4079, 4080, 6, 0, 0, 0)),
		prog(0x10000, filled(256, 260, 7, 300), filled(300, 301, 1, 256)),
		prog(0x304, filled(2, 5, 5, 0), filled(5, 6, 3, 7), filled(6, 4000, 1, 1), seg(4000, 4001, 0)),
	}
	for many := 1; many <= 8; many++ {
		l = append(l, upTo(many, many-1))
	}
	return l
}

func TestOrdinary(t *testing.T) {
	for _, i := range ordinary() {
		wantAs(t, i, true)
	}
}

// with is bytes with another one in a place.
func with(b []byte, place int, v byte) []byte {
	c := bytes.Clone(b)
	c[place] = v
	return c
}

func TestNoBytes(t *testing.T) {
	wantNoBytes(t, nil)
	wantNoBytes(t, []byte{})
	for one := range 256 {
		wantNoBytes(t, []byte{byte(one)})
		for many := range 40 {
			wantNoBytes(t, bytes.Repeat([]byte{byte(one)}, many))
		}
	}
	for _, s := range []string{"hx01", "hx01\x00", "hx01\x00\x00\x00\x00", "hx01\x00\x00\x00\x00\x00", "hx01\x00\x00\x00\x00\x01", "hx01\x00\x00\x00\x00\xff", "bt01", "program"} {
		wantNoBytes(t, []byte(s))
	}
}

// Another beginning: each byte of it another one, or one too many or too few, or none.
func TestOtherBeginning(t *testing.T) {
	for _, i := range ordinary() {
		b := slowBytes(i)
		for place := range 4 {
			for v := range 256 {
				if byte(v) != b[place] {
					wantNoBytes(t, with(b, place, byte(v)))
				}
			}
		}
		for _, s := range []string{"", "h", "hx", "hx0", "x01", "hx001", "hx0 1", " hx01", "\x00hx01", "hx01\x00", "hx01hx01", "HX01", "Hx01", "hX01", "hx10", "xh01", "hx02", "hx00", "bt01", "10xh", "\x00\x00\x00\x00"} {
			wantNoBytes(t, append([]byte(s), b[4:]...))
		}
	}
}

// Cut off at each place, from behind and from the front.
func TestCutOff(t *testing.T) {
	for _, i := range ordinary() {
		b := slowBytes(i)
		for n := range len(b) {
			wantNoBytes(t, b[:n])
			wantNoBytes(t, b[n+1:])
		}
	}
}

// One byte, or several, left out in the midst, or put in: the slow one tells whether a program comes out of it.
func TestLeftOut(t *testing.T) {
	for _, i := range ordinary() {
		b := slowBytes(i)
		for n := range len(b) {
			for many := 1; many <= 8 && n+many <= len(b); many++ {
				wantSlow(t, slices.Delete(bytes.Clone(b), n, n+many))
			}
			for _, v := range []byte{0, 1, 4, 255} {
				wantSlow(t, slices.Insert(bytes.Clone(b), n, v))
			}
		}
	}
}

// Followed by further bytes: each one, many of them, another program, another Seg.
func TestFollowed(t *testing.T) {
	for _, i := range ordinary() {
		b := slowBytes(i)
		for v := range 256 {
			wantNoBytes(t, append(bytes.Clone(b), byte(v)))
			wantNoBytes(t, append([]byte{byte(v)}, b...))
		}
		for many := 1; many < 300; many += 7 {
			wantNoBytes(t, append(bytes.Clone(b), make([]byte, many)...))
		}
		last := i.Segs[len(i.Segs)-1]
		wantNoBytes(t, append(bytes.Clone(b), slowBytes(prog(0, seg(last.To, last.To+1, 5)))[9:]...))
		for _, j := range ordinary() {
			wantNoBytes(t, append(bytes.Clone(b), slowBytes(j)...))
		}
	}
}

// Bytes behind a great program, or one less of it.
func TestGreat(t *testing.T) {
	for _, many := range []int{65534, 65535} {
		i := prog(0, filled(0, 256, 4, many), filled(300, 600, 4, many))
		b := slowBytes(i)
		wantProgram(t, i, b)
		for _, n := range []int{1, 2, 3, 6, 7, 8, 255, 256, 257, many - 1, many, many + 1, many + 7, many + 8} {
			wantNoBytes(t, b[:len(b)-n])
			wantNoBytes(t, append(bytes.Clone(b), make([]byte, n)...))
		}
	}
}

// A number of Segs that is greater or less than what follows.
func TestOtherManySegs(t *testing.T) {
	for _, i := range ordinary() {
		b := slowBytes(i)
		for v := range 256 {
			if v == len(i.Segs) {
				wantProgram(t, i, with(b, 8, byte(v)))
				continue
			}
			wantNoBytes(t, with(b, 8, byte(v)))
		}
	}
}

// As many Segs as the number tells, but more than a program can have, or none.
func TestManySegsInBytes(t *testing.T) {
	for many := range 256 {
		b := slowBytes(upTo(many, 0))
		if many >= 1 && many <= 8 {
			wantProgram(t, upTo(many, 0), b)
			continue
		}
		wantNoBytes(t, b)
	}
}

// A number of bytes of Data that is greater or less than what follows, also by so much that a Seg behind it is taken for Data.
func TestOtherManyBytes(t *testing.T) {
	one := prog(0, filled(0, 256, 5, 300))
	two := prog(0, seg(0, 256, 5, 1, 2, 3), seg(300, 400, 5, 4, 5))
	for v := range 1 << 16 {
		for _, i := range []image.Image{one, two} {
			b := slowBytes(i)
			b[14], b[15] = byte(v), byte(v/256)
			if v == len(i.Segs[0].Data) {
				wantProgram(t, i, b)
			} else {
				wantNoBytes(t, b)
			}
		}
	}
	for _, i := range ordinary() {
		last := i.Segs[len(i.Segs)-1]
		b := slowBytes(i)
		place := len(b) - len(last.Data) - 2
		for v := range 1 << 11 {
			b[place], b[place+1] = byte(v), byte(v/256)
			if v == len(last.Data) {
				wantProgram(t, i, b)
			} else {
				wantNoBytes(t, b)
			}
		}
	}
}

// Each byte another one: the slow one tells whether a program comes out of it.
func TestEveryByte(t *testing.T) {
	for _, i := range ordinary() {
		b := slowBytes(i)
		many := 0
		for place := range len(b) {
			for v := range 256 {
				if wantSlow(t, with(b, place, byte(v))) {
					many++
				}
			}
		}
		if many < len(b) {
			t.Errorf("%s: only %d programs", shown(i), many)
		}
	}
}

// Numbers of pages in bytes: each that two bytes can tell, as From and as To.
func TestPagesInBytes(t *testing.T) {
	for v := range 1 << 16 {
		i := prog(0x100, seg(1, v, 4))
		if v >= 2 && v <= 4080 {
			wantProgram(t, i, slowBytes(i))
		} else {
			wantNoBytes(t, slowBytes(i))
		}
		i = prog(uint32(v)*256, seg(v, 4080, 4))
		if v < 4080 {
			wantProgram(t, i, slowBytes(i))
		} else {
			wantNoBytes(t, slowBytes(i))
		}
	}
}

// wrong are programs that are not valid, each for one reason or for several.
func wrong() []image.Image {
	l := []image.Image{
		{},
		prog(4),
		prog(0, image.Seg{}),
		prog(0, seg(-1, 1, 5, 7)),
		prog(0, seg(0, 0, 5)),
		prog(0, seg(1, 0, 5)),
		prog(0, seg(0, 4081, 5, 1)),
		prog(0, seg(0, 1, 8)),
		prog(0, seg(0, 1, 13, 1)),
		prog(0, seg(0, 1, 255)),
		prog(0, seg(0, 1, 3)),
		prog(0, filled(0, 1, 5, 257)),
		prog(0, filled(0, 256, 5, 65536)),
		prog(2, seg(0, 1, 5)),
		prog(256, seg(0, 1, 5)),
		prog(math.MaxUint32, seg(0, 1, 5)),
		prog(0, seg(math.MinInt, math.MaxInt, 5)),
		prog(0, seg(math.MaxInt, math.MinInt, 5)),
		prog(0, seg(0, 1, 5), seg(0, 1, 5)),
		prog(0, seg(1, 2, 5), seg(0, 1, 5)),
		prog(0, seg(0, 1, 5), seg(1, 2, 8)),
		prog(0, seg(0, 1, 5), filled(1, 2, 0, 257)),
		prog(3, seg(-5, -9, 9, 1, 2)),
		upTo(9, 0),
		upTo(256, 0),
		upTo(257, 0),
	}
	return l
}

func TestWrong(t *testing.T) {
	for _, i := range wrong() {
		wantAs(t, i, false)
	}
}

// Beside an error there is nothing: no bytes, no part of a program.
func TestNothingBesideAnError(t *testing.T) {
	for _, i := range wrong() {
		if b, err := image.Encode(i); err == nil || len(b) > 0 {
			t.Errorf("Encode(%s): %s, %v", shown(i), shownBytes(b), err)
		}
		if image.Check(i) == nil {
			t.Errorf("Check(%s): no error", shown(i))
		}
	}
	for _, i := range ordinary() {
		good := slowBytes(i)
		for _, b := range [][]byte{good[:len(good)-1], append(bytes.Clone(good), 0), with(good, 0, 'H'), with(good, 4, good[4]+1), good[:9]} {
			if d, err := image.Decode(b); err == nil || d.Entry != 0 || len(d.Segs) > 0 {
				t.Errorf("Decode(%s): %s, %v", shownBytes(b), shown(d), err)
			}
		}
	}
}
