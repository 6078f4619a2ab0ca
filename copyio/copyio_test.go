package copyio_test

import (
	"bytes"
	"fmt"
	"math"
	"slices"
	"testing"

	"halter/api"
	"halter/copyio"
	"halter/space"
)

// all is one region of all pages.
var all = api.Region{From: 0, To: 4096, Perm: 3}

// runs are bytes within a page, over two and over many, and the pages that they are in.
var runs = []struct {
	at       uint32
	n        int
	from, to int
}{
	{at(2, 10), 5, 2, 3},
	{at(2, 0), 1, 2, 3},
	{at(2, 255), 1, 2, 3},
	{at(2, 0), 255, 2, 3},
	{at(2, 1), 254, 2, 3},
	{at(2, 1), 255, 2, 3},
	{at(2, 0), 256, 2, 3},
	{at(2, 1), 256, 2, 4},
	{at(2, 255), 2, 2, 4},
	{at(2, 254), 3, 2, 4},
	{at(2, 0), 257, 2, 4},
	{at(2, 255), 257, 2, 4},
	{at(2, 0), 512, 2, 4},
	{at(2, 255), 258, 2, 5},
	{at(2, 0), 513, 2, 5},
	{at(2, 100), 1000, 2, 7},
	{at(63, 200), 100, 63, 65},
	{at(0, 0), 1, 0, 1},
	{at(0, 0), 4096, 0, 16},
	{at(0, 1), 4095, 0, 16},
	{at(2, 0), 4095, 2, 18},
	{at(2, 1), 4096, 2, 19},
	{at(2, 255), 4096, 2, 19},
	{at(4094, 255), 2, 4094, 4096},
	{at(4095, 255), 1, 4095, 4096},
	{at(4095, 0), 256, 4095, 4096},
	{at(4080, 0), 4096, 4080, 4096},
	{at(4080, 1), 4095, 4080, 4096},
}

// The chapter's own example, whatever memory it is.
func TestExample(t *testing.T) {
	freed := made(t, 3, all)
	freed.s.Free()
	for what, s := range map[string]*space.Space{"a memory": made(t, 3, all).s, "one without regions": made(t, 3).s, "none": nil, "one that is freed": freed.s} {
		wantPeek(t, "Peek at 2 of "+what, s, 2, 0, 5)
	}
}

func TestCI1In(t *testing.T) {
	for _, r := range runs {
		what := fmt.Sprintf("In(%d, %d)", r.at, r.n)
		k := made(t, 40, all)
		wantIn(t, what+" of noughts", k.s, r.at, r.n, make([]byte, r.n), 0)
		k.wantPages(t, what, upTo(r.from, r.to)...)
		k.fill(t, r.from, r.to)
		same := k.same(t)
		wantIn(t, what, k.s, r.at, r.n, marks(r.at, r.n), 0)
		same(what)
	}
}

func TestCI1Out(t *testing.T) {
	for _, r := range runs {
		what := fmt.Sprintf("Out(%d, %d bytes)", r.at, r.n)
		k := made(t, 40, all)
		wantOut(t, what, k.s, r.at, some(r.n), r.n, 0)
		k.wantPages(t, what, upTo(r.from, r.to)...)
		want := make([]byte, (r.to-r.from)*256)
		copy(want[r.at%256:], some(r.n))
		k.wantBytes(t, what, r.from, want)

		k = made(t, 40, all).fill(t, r.from, r.to)
		wantOut(t, what, k.s, r.at, some(r.n), r.n, 0)
		want = marks(at(r.from, 0), len(want))
		copy(want[r.at%256:], some(r.n))
		k.wantBytes(t, what, r.from, want)
		k.wantPages(t, what, upTo(r.from, r.to)...)
	}
}

// Pages of several regions, which may be used in other ways too, are as those of one.
func TestCI1Regions(t *testing.T) {
	regions := []api.Region{{From: 2, To: 3, Perm: 3}, {From: 3, To: 4, Perm: 7}, {From: 4, To: 6, Perm: 3}}
	k := made(t, 40, regions...).fill(t, 2, 6)
	wantIn(t, "In", k.s, at(2, 0), 1024, marks(at(2, 0), 1024), 0)
	wantOut(t, "Out", k.s, at(2, 3), some(1021), 1021, 0)
	k.wantBytes(t, "Out", 2, slices.Concat(marks(at(2, 0), 3), some(1021)))
}

// No more than MaxData bytes at once, and no fewer than none; nothing is done then.
func TestCI1Sizes(t *testing.T) {
	k := made(t, 40, all).fill(t, 2, 4)
	freed := made(t, 4, all)
	freed.s.Free()
	same := k.same(t)
	for _, a := range append([]uint32{0, 2, at(2, 255), at(4095, 255)}, beyond...) {
		for _, s := range []*space.Space{k.s, nil, freed.s} {
			for _, n := range badSizes {
				wantIn(t, fmt.Sprintf("In(%d, %d)", a, n), s, a, n, nil, 22)
			}
			for _, n := range []int{4097, 4098, 4352, 8192, 65536, 1<<20 + 1} {
				wantOut(t, fmt.Sprintf("Out(%d, %d bytes)", a, n), s, a, some(n), 0, 22)
			}
		}
	}
	same("wrong sizes")
}

// No bytes are in no page: none is accessed.
func TestCI1NoBytes(t *testing.T) {
	k := made(t, 5, api.Region{From: 1, To: 3, Perm: 0}, api.Region{From: 3, To: 5, Perm: 3})
	freed := made(t, 4, all)
	freed.s.Free()
	for _, free := range []int{4, 0} {
		k.leave(t, free)
		same := k.same(t)
		for _, a := range append([]uint32{0, at(1, 0), at(2, 255), at(3, 0), at(3, 7), at(4, 255), at(5, 0), at(4095, 255)}, beyond...) {
			for _, s := range []*space.Space{k.s, nil, freed.s} {
				wantIn(t, fmt.Sprintf("In(%d, 0)", a), s, a, 0, nil, 0)
				wantOut(t, fmt.Sprintf("Out(%d, no bytes)", a), s, a, nil, 0, 0)
				wantOut(t, fmt.Sprintf("Out(%d, no bytes)", a), s, a, []byte{}, 0, 0)
			}
		}
		same("no bytes")
	}
}

// Bytes that go beyond the last page, and by how many bytes they do.
func TestCI1LastPage(t *testing.T) {
	for _, r := range []struct {
		at     uint32
		n      int
		before int // how many bytes there are up to the end
		from   int
	}{
		{at(4095, 255), 2, 1, 4095},
		{at(4095, 255), 256, 1, 4095},
		{at(4095, 255), 4096, 1, 4095},
		{at(4095, 0), 257, 256, 4095},
		{at(4094, 255), 258, 257, 4094},
		{at(4080, 1), 4096, 4095, 4080},
		{at(4081, 0), 4096, 3840, 4081},
	} {
		in, out := fmt.Sprintf("In(%d, %d)", r.at, r.n), fmt.Sprintf("Out(%d, %d bytes)", r.at, r.n)
		k := made(t, 40, all)
		wantIn(t, in, k.s, r.at, r.n, nil, 14)
		k.wantPages(t, in, upTo(r.from, 4096)...)
		k = made(t, 40, all)
		wantOut(t, out, k.s, r.at, some(r.n), r.before, 14)
		k.wantPages(t, out, upTo(r.from, 4096)...)
		k.wantBytes(t, out, r.from, slices.Concat(make([]byte, r.at%256), some(r.n)[:r.before]))
	}
}

// Addresses beyond the last page: none of them comes to be the first page's.
func TestCI1Beyond(t *testing.T) {
	k := made(t, 40, all).fill(t, 0, 1).fill(t, 4095, 4096)
	same := k.same(t)
	for _, a := range beyond {
		for _, n := range []int{1, 2, 4, 255, 256, 257, 4095, 4096} {
			wantIn(t, fmt.Sprintf("In(%d, %d)", a, n), k.s, a, n, nil, 14)
			wantOut(t, fmt.Sprintf("Out(%d, %d bytes)", a, n), k.s, a, some(n), 0, 14)
		}
	}
	same("addresses beyond the last page")
}

// put lays bytes down, whatever the pages may be used for.
func (k *machine) put(t *testing.T, at uint32, b []byte) {
	t.Helper()
	for i, v := range b {
		if err := k.s.Write(at+uint32(i), []byte{v}, true); err != nil {
			t.Fatalf("Write: %v", err)
		}
	}
}

// Texts within a page and over pages, with other bytes behind the nought.
func TestCI2Text(t *testing.T) {
	long := string(some(4096))
	for _, r := range []struct {
		at   uint32
		text string
	}{
		{at(2, 10), "hello"},
		{at(2, 0), "/bin/sh"},
		{at(2, 250), "hello"}, // the nought is the last byte of the page
		{at(2, 251), "hello"}, // .. and the first one of the next page
		{at(2, 255), "hello"},
		{at(2, 255), ""},
		{at(2, 3), "a"},
		{at(0, 0), "x"},
		{at(2, 7), " \n\t\x01\x7f\x80\xff\xc3\x28 "},
		{at(2, 0), long[:255]},
		{at(2, 0), long[:256]},
		{at(2, 100), long[:1000]},
		{at(2, 1), long[:4095]},
		{at(2, 0), long},
		{at(2, 255), long},
		{at(4095, 0), long[:255]},
		{at(4079, 255), long},
	} {
		k := made(t, 40, all)
		b := append([]byte(r.text), 0, 'x', 'y', 0, 'z')
		k.put(t, r.at, b[:min(len(b), end-int(r.at))])
		same := k.same(t)
		n := len(r.text)
		for _, most := range []int{n, n + 1, n + 2, n + 3, n + 300, 4095, 4096} {
			if most >= n && most <= 4096 {
				wantText(t, fmt.Sprintf("Text(%d, %d)", r.at, most), k.s, r.at, most, r.text, 0)
			}
		}
		for _, most := range []int{0, 1, n - 257, n - 256, n - 2, n - 1} {
			if most >= 0 && most < n {
				wantText(t, fmt.Sprintf("Text(%d, %d)", r.at, most), k.s, r.at, most, "", 36)
			}
		}
		same("Text")
	}
}

// A text ends at its first nought, where others follow.
func TestCI2FirstNought(t *testing.T) {
	k := made(t, 10, all)
	k.put(t, at(2, 250), []byte("ab\x00cd\x00efg\x00\x00h\x00"))
	for _, r := range []struct {
		off  int
		most int
		want string
	}{
		{250, 4096, "ab"}, {251, 4096, "b"}, {252, 4096, ""}, {252, 0, ""}, {253, 4096, "cd"}, {253, 2, "cd"}, {255, 4096, ""}, {256, 3, "efg"}, {259, 5, ""}, {260, 5, ""}, {261, 1, "h"}, {262, 9, ""}, {262, 0, ""}, {249, 77, ""},
	} {
		wantText(t, fmt.Sprintf("Text at %d", r.off), k.s, at(2, r.off), r.most, r.want, 0)
	}
}

// What lies where no text was stored are noughts: a text of no bytes.
func TestCI2NoText(t *testing.T) {
	for _, most := range []int{0, 1, 4096} {
		k := made(t, 10, all)
		wantText(t, "Text of noughts", k.s, at(2, 7), most, "", 0)
		k.wantPages(t, "Text of noughts", 2)
	}
	k := made(t, 10, all)
	k.put(t, at(2, 254), []byte("ab"))
	wantText(t, "Text up to a page of noughts", k.s, at(2, 254), 1, "", 36)
	k.wantPages(t, "Text up to a page of noughts, which is not reached", 2)
	wantText(t, "Text up to a page of noughts", k.s, at(2, 254), 2, "ab", 0)
	k.wantPages(t, "Text up to a page of noughts", 2, 3)
}

func TestCI2Most(t *testing.T) {
	k := made(t, 40, all).fill(t, 2, 4)
	freed := made(t, 4, all)
	freed.s.Free()
	same := k.same(t)
	for _, a := range append([]uint32{0, 2, at(2, 255), at(4095, 255)}, beyond...) {
		for _, s := range []*space.Space{k.s, nil, freed.s} {
			for _, most := range badSizes {
				wantText(t, fmt.Sprintf("Text(%d, %d)", a, most), s, a, most, "", 22)
			}
		}
	}
	same("wrong numbers of bytes")
	k = made(t, 40, all).fill(t, 2, 20)
	for _, most := range []int{0, 1, 255, 256, 4095, 4096} {
		wantText(t, fmt.Sprintf("Text with %d bytes at most, and no nought", most), k.s, at(2, 0), most, "", 36)
	}
}

func TestCI2Beyond(t *testing.T) {
	k := made(t, 40, all).fill(t, 4079, 4096)
	k.put(t, 0, []byte("x\x00"))
	same := k.same(t)
	for _, most := range []int{0, 1, 255, 256, 4095, 4096} {
		for _, a := range beyond {
			wantText(t, fmt.Sprintf("Text(%d, %d)", a, most), k.s, a, most, "", 14)
		}
		want := api.Errno(14)
		if most < 255 {
			want = 36
		}
		wantText(t, fmt.Sprintf("Text from %d on, up to the end", at(4095, 1)), k.s, at(4095, 1), most, "", want)
	}
	wantText(t, "Text of 4,097 bytes, up to the end", k.s, at(4079, 255), 4096, "", 36)
	wantText(t, "Text of 4,096 bytes, up to the end", k.s, at(4080, 0), 4096, "", 14)
	same("texts up to the end, and beyond")
}

func TestCI3Peek(t *testing.T) {
	k := made(t, 40, all)
	k.put(t, at(2, 4), []byte{0x44, 0x33, 0x22, 0x11, 0xff, 0, 0, 0x80})
	for _, r := range []struct {
		off  int
		want uint32
	}{{0, 0}, {4, 0x11223344}, {8, 0x800000ff}, {12, 0}, {252, 0}} {
		wantPeek(t, fmt.Sprintf("Peek at %d", r.off), k.s, at(2, r.off), r.want, 0)
	}
	k.wantPages(t, "Peek", 2)
	k.fill(t, 0, 1).fill(t, 3, 4).fill(t, 4095, 4096)
	same := k.same(t)
	for _, a := range []uint32{0, 4, at(0, 252), at(3, 0), at(3, 100), at(3, 252), at(4095, 0), at(4095, 248), at(4095, 252)} {
		b := marks(a, 4)
		want := uint32(b[0]) | uint32(b[1])<<8 | uint32(b[2])<<16 | uint32(b[3])<<24
		wantPeek(t, fmt.Sprintf("Peek at %d", a), k.s, a, want, 0)
	}
	same("Peek")
	wantPeek(t, "Peek at a page that has no frame", k.s, at(70, 8), 0, 0)
	k.wantPages(t, "Peek", 0, 2, 3, 70, 4095)
}

func TestCI3Poke(t *testing.T) {
	for _, a := range []uint32{0, 4, at(0, 252), at(3, 0), at(3, 100), at(3, 252), at(4095, 0), at(4095, 252)} {
		for _, v := range []uint32{0, 1, 0x11223344, 0x80000000, 0x7fffffff, 0x000000ff, 0xff000000, math.MaxUint32} {
			what := fmt.Sprintf("Poke(%d, %#x)", a, v)
			page := int(a / 256)
			for _, k := range []*machine{made(t, 10, all), made(t, 10, all).fill(t, page, page+1)} {
				want := make([]byte, 256)
				copy(want, k.s.Page(page))
				copy(want[a%256:], []byte{byte(v), byte(v >> 8), byte(v >> 16), byte(v >> 24)})
				wantPoke(t, what, k.s, a, v, 0)
				k.wantPages(t, what, page)
				k.wantBytes(t, what, page, want)
				wantPeek(t, what, k.s, a, v, 0)
			}
		}
	}
}

// An address that is not divisible by 4: nothing is accessed, whatever else would be wrong.
func TestCI3Odd(t *testing.T) {
	freed := made(t, 4, all)
	freed.s.Free()
	for _, free := range []int{30, 0} {
		k := made(t, 40, api.Region{From: 0, To: 9, Perm: 3}, api.Region{From: 9, To: 11, Perm: 0}).fill(t, 2, 4).leave(t, free)
		same := k.same(t)
		for _, page := range []int{0, 2, 3, 9, 12, 4095, 4096, 1 << 23, 1<<24 - 1} {
			for _, off := range []int{1, 2, 3, 5, 6, 7, 126, 129, 253, 254, 255} {
				for _, s := range []*space.Space{k.s, nil, freed.s} {
					wantPeek(t, fmt.Sprintf("Peek at %d", at(page, off)), s, at(page, off), 0, 5)
					wantPoke(t, fmt.Sprintf("Poke at %d", at(page, off)), s, at(page, off), 0x11223344, 5)
				}
			}
		}
		same("addresses that are not divisible by 4")
	}
}

// By force: whatever the Perm is; Protect does not matter either.
func TestCI3Force(t *testing.T) {
	for perm := range uint8(8) {
		k := made(t, 10, api.Region{From: 2, To: 4, Perm: perm})
		wantPeek(t, "Peek of noughts", k.s, at(2, 0), 0, 0)
		wantPoke(t, "Poke", k.s, at(3, 8), 0x11223344, 0)
		wantPeek(t, "Peek", k.s, at(3, 8), 0x11223344, 0)
		k.wantPages(t, "Poke", 2, 3)
		for other := range uint8(8) {
			if err := k.s.Protect(2, 4, other); err != nil {
				t.Fatal(err)
			}
			wantPoke(t, "Poke", k.s, at(2, 252), 0xf0000000+uint32(other), 0)
			wantPeek(t, "Peek", k.s, at(2, 252), 0xf0000000+uint32(other), 0)
			wantPeek(t, "Peek", k.s, at(3, 8), 0x11223344, 0)
		}
	}
}

// Where there is no page: ErrIO, not ErrFault.
func TestCI3NoPage(t *testing.T) {
	for _, free := range []int{7, 0} {
		k := made(t, 10, api.Region{From: 2, To: 4, Perm: 7}).leave(t, free)
		same := k.same(t)
		for _, a := range []uint32{0, 4, at(1, 252), at(4, 0), at(4, 4), at(66, 0), at(4095, 252), end, end + 4, at(4098, 8), 1 << 24, 1 << 31, math.MaxUint32 - 255, math.MaxUint32 - 3} {
			wantPeek(t, fmt.Sprintf("Peek at %d", a), k.s, a, 0, 5)
			wantPoke(t, fmt.Sprintf("Poke at %d", a), k.s, a, 0x11223344, 5)
		}
		same("Peek and Poke where there is no page")
	}
}

// Where no frame is free for the page, or for the upper part of the table.
func TestCI3NoFrame(t *testing.T) {
	k := made(t, 10, all).fill(t, 2, 3).leave(t, 1)
	same := k.same(t)
	wantPeek(t, "Peek in an upper part that has no frame", k.s, at(64, 4), 0, 12)
	wantPoke(t, "Poke in an upper part that has no frame", k.s, at(64, 4), 7, 12)
	same("Peek and Poke where one frame is free, and two are needed")
	k.leave(t, 0)
	same = k.same(t)
	for _, a := range []uint32{0, at(3, 0), at(3, 252), at(64, 4), at(4095, 252)} {
		wantPeek(t, fmt.Sprintf("Peek at %d", a), k.s, a, 0, 12)
		wantPoke(t, fmt.Sprintf("Poke at %d", a), k.s, a, 7, 12)
	}
	same("Peek and Poke where no frame is free")
	wantPoke(t, "Poke where there is a frame", k.s, at(2, 8), 77, 0)
	wantPeek(t, "Peek where there is a frame", k.s, at(2, 8), 77, 0)
	k.wantPages(t, "Poke", 2)
}

// What Out has stored is what In reads; it is what Text and Peek read, too.
func TestCI4OutIn(t *testing.T) {
	for _, r := range runs {
		k := made(t, 40, all).fill(t, r.from, r.to)
		for _, b := range [][]byte{some(r.n), make([]byte, r.n), bytes.Repeat([]byte{255}, r.n)} {
			wantOut(t, "Out", k.s, r.at, b, r.n, 0)
			wantIn(t, "In", k.s, r.at, r.n, b, 0)
			for _, half := range []int{0, 1, r.n / 2, r.n} {
				wantIn(t, "In of what comes first", k.s, r.at, half, b[:half], 0)
				wantIn(t, "In of what comes last", k.s, r.at+uint32(half), r.n-half, b[half:], 0)
			}
		}
		text := string(some(r.n - 1))
		wantOut(t, "Out", k.s, r.at, append([]byte(text), 0), r.n, 0)
		wantText(t, "Text", k.s, r.at, len(text), text, 0)
	}
	k := made(t, 40, all)
	wantOut(t, "Out", k.s, at(2, 254), []byte{1, 2, 3, 4, 5, 6}, 6, 0)
	wantPeek(t, "Peek", k.s, at(2, 252), 0x02010000, 0)
	wantPeek(t, "Peek", k.s, at(3, 0), 0x06050403, 0)
	wantPoke(t, "Poke", k.s, at(3, 0), 0x44434241, 0)
	wantIn(t, "In", k.s, at(2, 255), 6, []byte{2, 0x41, 0x42, 0x43, 0x44, 0}, 0)
	wantText(t, "Text", k.s, at(2, 254), 9, "\x01\x02ABCD", 0)
}

// What is stored in one memory is not seen in the other one behind a Fork.
func TestCI4Fork(t *testing.T) {
	for _, child := range []bool{false, true} {
		k := made(t, 40, all).fill(t, 2, 6)
		one, other := k.s, k.fork(t)
		if child {
			one, other = other, one
		}
		wantOut(t, "Out", one, at(2, 200), some(400), 400, 0)
		wantPoke(t, "Poke", one, at(5, 16), 0x11223344, 0)
		wantIn(t, "In of the other one", other, at(2, 0), 1024, marks(at(2, 0), 1024), 0)
		b := marks(at(5, 16), 4)
		wantPeek(t, "Peek of the other one", other, at(5, 16), uint32(b[0])|uint32(b[1])<<8|uint32(b[2])<<16|uint32(b[3])<<24, 0)
		want := marks(at(2, 0), 1024)
		copy(want[200:], some(400))
		copy(want[3*256+16:], []byte{0x44, 0x33, 0x22, 0x11})
		wantIn(t, "In", one, at(2, 0), 1024, want, 0)
		wantPeek(t, "Peek", one, at(5, 16), 0x11223344, 0)
		wantPoke(t, "Poke of the other one", other, at(5, 16), 77, 0)
		wantOut(t, "Out of the other one", other, at(3, 0), make([]byte, 256), 256, 0)
		wantIn(t, "In", one, at(2, 0), 1024, want, 0)
		other.Free()
		wantIn(t, "In", one, at(2, 0), 1024, want, 0)
	}
}

// Reading needs no frame where memory is shared; writing does, one a page.
func TestCI4ForkFrames(t *testing.T) {
	k := made(t, 40, all).fill(t, 2, 6)
	other := k.fork(t)
	k.leave(t, 0)
	same := k.same(t)
	wantIn(t, "In", k.s, at(2, 0), 1024, marks(at(2, 0), 1024), 0)
	wantIn(t, "In of the other one", other, at(2, 0), 1024, marks(at(2, 0), 1024), 0)
	wantText(t, "Text", k.s, at(2, 0), 1023, "", 36)
	wantOut(t, "Out", k.s, at(2, 0), some(1024), 0, 12)
	wantOut(t, "Out of the other one", other, at(2, 3), some(2), 0, 12)
	wantPoke(t, "Poke", k.s, at(2, 0), 0x11223344, 12)
	if _, err := copyio.Peek(other, at(5, 252)); err != nil {
		t.Fatalf("Peek of the other one: %v", err)
	}
	same("calls where no frame is free")
	if _, err := k.f.Unref(k.f.Taken()[len(k.f.Taken())-1]); err != nil {
		t.Fatal(err)
	}
	wantOut(t, "Out where one frame is free", k.s, at(2, 200), some(400), 56, 12)
	k.wantBytes(t, "Out where one frame is free", 2, slices.Concat(marks(at(2, 0), 200), some(56), marks(at(3, 0), 768)))
	wantIn(t, "In of the other one", other, at(2, 0), 1024, marks(at(2, 0), 1024), 0)
	other.Free()
	wantOut(t, "Out where nobody else has the frames", k.s, at(2, 200), some(400), 400, 0)
}
