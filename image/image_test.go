package image_test

import (
	"math"
	"slices"
	"testing"

	"halter/image"
)

// The chapter's own example, and the same with other numbers.
func TestExample(t *testing.T) {
	li := []byte{0x05, 0x00, 0x10, 0x01}
	b := []byte{'h', 'x', '0', '1', 0, 0, 0, 0, 1, 0, 0, 1, 0, 5, 4, 0, 0x05, 0x00, 0x10, 0x01}
	if len(b) != 20 {
		t.Fatalf("%d bytes", len(b))
	}
	wantProgram(t, prog(0, seg(0, 1, 5, li...)), b)
	wantAs(t, prog(0, seg(0, 1, 5, li...)), true)
}

// Programs and their bytes, by hand.
func TestIM1Bytes(t *testing.T) {
	for _, r := range []struct {
		i    image.Image
		want string
	}{
		{prog(0, seg(0, 1, 4)), "hx01" + "\x00\x00\x00\x00" + "\x01" + "\x00\x00\x01\x00\x04\x00\x00"},
		{prog(0xfc, seg(0, 1, 7, 'a')), "hx01" + "\xfc\x00\x00\x00" + "\x01" + "\x00\x00\x01\x00\x07\x01\x00a"},
		{prog(0x100, seg(1, 2, 5)), "hx01" + "\x00\x01\x00\x00" + "\x01" + "\x01\x00\x02\x00\x05\x00\x00"},
		{prog(0xfeffc, seg(0, 4080, 6)), "hx01" + "\xfc\xef\x0f\x00" + "\x01" + "\x00\x00\xf0\x0f\x06\x00\x00"},
		{prog(0xfef00, seg(4079, 4080, 4, 1, 2, 3)), "hx01" + "\x00\xef\x0f\x00" + "\x01" + "\xef\x0f\xf0\x0f\x04\x03\x00\x01\x02\x03"},
		{prog(0x20304, seg(0x203, 0x405, 5)), "hx01" + "\x04\x03\x02\x00" + "\x01" + "\x03\x02\x05\x04\x05\x00\x00"},
		{
			prog(0x210, seg(1, 2, 1, []byte("xyz")...), seg(2, 3, 4), seg(9, 300, 0, []byte("hx01")...)),
			"hx01" + "\x10\x02\x00\x00" + "\x03" + "\x01\x00\x02\x00\x01\x03\x00xyz" + "\x02\x00\x03\x00\x04\x00\x00" + "\x09\x00\x2c\x01\x00\x04\x00hx01",
		},
		{
			prog(0, seg(0, 2, 7, make([]byte, 258)...)),
			"hx01" + "\x00\x00\x00\x00" + "\x01" + "\x00\x00\x02\x00\x07\x02\x01" + string(make([]byte, 258)),
		},
	} {
		wantProgram(t, r.i, []byte(r.want))
		wantAs(t, r.i, true)
	}
}

// upTo has a program of so many Segs of one page, with Entry in one of them; each Seg has other Data.
func upTo(many, begin int) image.Image {
	i := prog(uint32(begin * 512))
	for n := range many {
		i.Segs = append(i.Segs, filled(2*n, 2*n+1, 5, n))
	}
	return i
}

// No Seg, one, eight, nine, and numbers that are good ones modulo 2^4 or 2^8.
func TestIM1ManySegs(t *testing.T) {
	wantAs(t, prog(0), false)
	wantAs(t, image.Image{Segs: []image.Seg{}}, false)
	for many := range 40 {
		for begin := range many {
			wantAs(t, upTo(many, begin), many <= 8)
		}
	}
	for _, many := range []int{64, 127, 128, 129, 254, 255, 256, 257, 258, 263, 264, 265, 512, 513, 2040, 2041} {
		wantAs(t, upTo(many, 0), false)
	}
}

// More Segs than a list of a valid program could ever have: good ones, over and over.
func TestIM1FarTooManySegs(t *testing.T) {
	for _, many := range []int{9, 256, 257, 264, 65536, 65537, 1<<20 + 1} {
		i := prog(0, slices.Repeat([]image.Seg{seg(0, 1, 4)}, many)...)
		if no := number(image.Check(i)); no != 8 {
			t.Errorf("Check of %d Segs: error %d", many, no)
		}
		if b, err := image.Encode(i); number(err) != 8 || len(b) > 0 {
			t.Errorf("Encode of %d Segs: %s, %v", many, shownBytes(b), err)
		}
	}
}

// Each From with each To, of a program's only Seg and of the first and the last one of three.
func TestIM1Pages(t *testing.T) {
	all := slices.Concat(farPages, goodPages)
	for _, from := range all {
		for _, to := range all {
			right := from >= 0 && from < to && to <= 4080
			wantAs(t, prog(uint32(from)*256, seg(from, to, 4)), right)
			wantAs(t, prog(256, seg(1, 2, 4), seg(from, to, 3)), right && from >= 2)
			wantAs(t, prog(4079*256, seg(from, to, 3), seg(4079, 4080, 4)), right && to <= 4079)
			wantAs(t, prog(20*256, seg(from, to, 3), seg(20, 21, 4), seg(30, 31, 1)), right && to <= 20)
			wantAs(t, prog(20*256, seg(10, 11, 3), seg(20, 21, 4), seg(from, to, 1)), right && from >= 21)
		}
	}
}

// The pages that a program can have: each of them alone, and all up to each of them.
func TestIM1EveryPage(t *testing.T) {
	for page := -300; page < 4400; page++ {
		right := page >= 0 && page < 4080
		wantAs(t, prog(uint32(page)*256, seg(page, page+1, 4)), right)
		wantAs(t, prog(0, seg(0, page+1, 4)), right)
		wantAs(t, prog(uint32(page)*256, seg(page, page, 4)), false)
		wantAs(t, prog(uint32(page)*256, seg(page+1, page, 4)), false)
	}
}

// Segs that touch, that overlap, and that do not ascend.
func TestIM1Order(t *testing.T) {
	for _, r := range []struct {
		one, two image.Seg
		right    bool
	}{
		{seg(0, 2, 4), seg(2, 4, 4), true},
		{seg(0, 2, 4), seg(3, 4, 4), true},
		{seg(0, 2, 4), seg(1, 4, 4), false},
		{seg(0, 2, 4), seg(0, 4, 4), false},
		{seg(0, 2, 4), seg(0, 2, 4), false},
		{seg(0, 2, 4), seg(0, 1, 4), false},
		{seg(0, 2, 4), seg(1, 2, 4), false},
		{seg(0, 9, 4), seg(3, 4, 4), false},
		{seg(2, 4, 4), seg(0, 2, 4), false},
		{seg(2, 4, 4), seg(0, 1, 4), false},
		{seg(2, 4, 4), seg(0, 3, 4), false},
		{seg(2, 4, 4), seg(2, 2, 4), false},
		{seg(2, 4, 4), seg(4, 4, 4), false},
		{seg(2, 4, 4), seg(5, 4, 4), false},
		{seg(2, 4, 4), seg(3, 5, 4), false},
		{seg(2, 4, 4), seg(4, 5, 4), true},
		{seg(2, 4, 4), seg(4079, 4080, 4), true},
		{seg(2, 4079, 4), seg(4079, 4080, 4), true},
		{seg(2, 4080, 4), seg(4080, 4081, 4), false},
		{seg(2, 4080, 4), seg(4079, 4080, 4), false},
	} {
		wantAs(t, prog(uint32(r.one.From)*256, r.one, r.two), r.right)
		wantAs(t, prog(uint32(r.two.From)*256, r.one, r.two), r.right)
		wantAs(t, prog(50*256, r.one, r.two, seg(50, 51, 4)), r.right && r.two.To <= 50)
	}
}

// Eight Segs that touch; two of them change places, become one and the same, or have a page in common.
func TestIM1OrderOfEight(t *testing.T) {
	for _, wide := range []int{1, 2, 510} {
		var i image.Image
		for n := range 8 {
			i.Segs = append(i.Segs, filled(n*wide, (n+1)*wide, uint8(n), n*11))
		}
		i.Entry = uint32(4*wide) * 256
		wantAs(t, i, true)
		for n := range 8 {
			for k := range 8 {
				j := cloned(i)
				j.Segs[n], j.Segs[k] = j.Segs[k], j.Segs[n]
				wantAs(t, j, n == k)
				j = cloned(i)
				j.Segs[n] = j.Segs[k]
				wantAs(t, j, n == k)
			}
			if n > 0 {
				j := cloned(i)
				j.Segs[n].From--
				wantAs(t, j, false)
				j = cloned(i)
				j.Segs[n-1].To++
				wantAs(t, j, false)
			}
		}
	}
}

// Each Perm, of the Seg in which Entry lies and of others.
func TestIM1Perm(t *testing.T) {
	for p := range 256 {
		perm := uint8(p)
		exec := p == 4 || p == 5 || p == 6 || p == 7
		wantAs(t, prog(256, seg(1, 2, perm)), exec)
		wantAs(t, prog(256, seg(1, 2, perm, 1, 2, 3)), exec)
		wantAs(t, prog(256, seg(1, 2, 5), seg(2, 3, perm)), p < 8)
		wantAs(t, prog(512, seg(1, 2, perm), seg(2, 3, 5)), p < 8)
		wantAs(t, prog(256, seg(1, 2, perm), seg(2, 3, 5)), exec)
		wantAs(t, prog(256, seg(0, 1, 7), seg(1, 2, perm), seg(2, 3, 7)), exec)
		wantAs(t, prog(0, seg(0, 1, 7), seg(1, 2, perm), seg(2, 3, perm)), p < 8)
	}
}

// Data of no byte, of about as many as the pages have, and of as many as can be told; in each of three Segs.
func TestIM1Data(t *testing.T) {
	for _, pages := range []int{1, 2, 3, 15, 16, 17, 127, 128, 129, 254, 255, 256, 257, 300, 511, 512, 1024} {
		for _, many := range []int{0, 1, 2, 255, 256, 257, 511, 512, 513, 4096, 32767, 32768, 65279, 65280, 65281, 65534, 65535, 65536, 65537, 131071, 131072, 131073, pages*256 - 1, pages * 256, pages*256 + 1} {
			right := many <= pages*256 && many <= 65535
			one, two := filled(5, 5+pages, 7, many), filled(2000, 2000+pages, 3, many)
			wantAs(t, prog(5*256, one), right)
			wantAs(t, prog(5*256, seg(0, 1, 1, 9), one, two), right)
			wantAs(t, prog(5*256, filled(5, 5+pages, 7, 20), two, seg(4079, 4080, 2, 8)), right)
			wantAs(t, prog(0, seg(0, 4, 4), filled(4080-pages, 4080, 3, many)), right)
		}
	}
}

// A program of as many bytes as there can be, and one with one byte more in one of its Segs.
func TestIM1MostData(t *testing.T) {
	for long := range 9 {
		var i image.Image
		for n := range 8 {
			many := 65535
			if n == long {
				many++
			}
			i.Segs = append(i.Segs, filled(n*510, (n+1)*510, uint8(n), many))
		}
		i.Entry = 7 * 510 * 256
		wantAs(t, i, long == 8)
	}
}

// All addresses of six pages, two of which are executed.
func TestIM1Entry(t *testing.T) {
	for at := range uint32(6 * 256) {
		inside := at >= 512 && at < 1024 && at%4 == 0
		wantAs(t, prog(at, seg(2, 4, 4)), inside)
		wantAs(t, prog(at, seg(0, 2, 3), seg(2, 4, 5), seg(4, 6, 2)), inside)
		wantAs(t, prog(at, seg(2, 3, 6), seg(3, 4, 7)), inside)
		wantAs(t, prog(at, seg(0, 2, 4), seg(2, 4, 3), seg(4, 6, 4)), !(at >= 512 && at < 1024) && at%4 == 0)
	}
}

// About the limits of Segs: the first and the last word, just ahead of it and just behind it.
func TestIM1EntryEdges(t *testing.T) {
	for _, r := range []struct{ from, to int }{{0, 1}, {0, 2}, {1, 2}, {255, 256}, {256, 257}, {255, 257}, {2047, 2049}, {4078, 4080}, {4079, 4080}, {0, 4080}} {
		from, to := int64(r.from)*256, int64(r.to)*256
		for _, edge := range []int64{from, to, from + 256, to - 256} {
			for at := edge - 12; at <= edge+12; at++ {
				wantAs(t, prog(uint32(at), seg(r.from, r.to, 5)), at >= from && at < to && at%4 == 0)
			}
		}
	}
}

// Entries that are good ones modulo a power of two, and the greatest numbers.
func TestIM1EntryFar(t *testing.T) {
	for _, i := range []image.Image{prog(0, seg(0, 1, 4)), prog(0, seg(0, 4080, 7)), prog(0, seg(0, 8, 5), seg(8, 4080, 3))} {
		wantAs(t, i, true)
		limit := uint64(i.Segs[0].To) * 256
		for bit := range 32 {
			for _, at := range []uint64{1<<bit - 4, 1<<bit - 1, 1 << bit, 1<<bit + 1, 1<<bit + 4} {
				at %= 1 << 32
				i.Entry = uint32(at)
				wantAs(t, i, at < limit && at%4 == 0)
			}
		}
		for _, at := range []uint32{math.MaxUint32, math.MaxUint32 - 1, math.MaxUint32 - 2, math.MaxUint32 - 3, math.MaxUint32 - 255, 0xfff00000, 0xff000000, 0x7ffffffc, 4080 * 256, 4095 * 256, 4096 * 256, 65536 * 256} {
			i.Entry = at
			wantAs(t, i, false)
		}
	}
}

// Entry in each page of a program with holes: it begins only in a page of a Seg that is executed.
func TestIM1EntryHoles(t *testing.T) {
	l := []image.Seg{seg(1, 3, 5), seg(3, 4, 3), seg(6, 7, 4), seg(7, 9, 0), seg(9, 10, 6), seg(12, 13, 1), seg(20, 40, 7)}
	begins := map[int]bool{1: true, 2: true, 6: true, 9: true}
	for page := range 50 {
		for _, offset := range []uint32{0, 4, 128, 252} {
			wantAs(t, prog(uint32(page)*256+offset, l...), begins[page] || page >= 20 && page < 40)
		}
	}
}
