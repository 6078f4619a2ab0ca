package copyio_test

import (
	"fmt"
	"slices"
	"testing"

	"halter/api"
	"halter/space"
)

// Five pages that bytes are read from, or stored into: from the hundredth byte of the first one on.
const (
	first  = 60 // so that the table has frames for two upper parts
	offset = 100
	many   = 1000
)

// before is how many of those bytes are in the pages before one of them.
func before(page int) int { return max(0, (page-first)*256-offset) }

// without are regions of the five pages, of which one has another Perm; above 7: it is in no region.
func without(page int, perm uint8) []api.Region {
	var l []api.Region
	if page > first {
		l = append(l, api.Region{From: first, To: page, Perm: 3})
	}
	if perm <= 7 {
		l = append(l, api.Region{From: page, To: page + 1, Perm: perm})
	}
	return append(l, api.Region{From: page + 1, To: first + 9, Perm: 3})
}

// wantFrames holds that of the five pages those before one have frames, and no others.
func (k *machine) wantFrames(t *testing.T, what string, page int) {
	t.Helper()
	k.wantPages(t, what, upTo(first, page)...)
}

// A page, whichever of them it is, that may not be read: those before it are reached, no others.
func TestCI1InFailures(t *testing.T) {
	for page := first; page < first+5; page++ {
		for _, perm := range []uint8{0, 2, 4, 6, 8} {
			what := fmt.Sprintf("In where page %d has Perm %d", page, perm)
			k := made(t, 40, without(page, perm)...)
			wantIn(t, what, k.s, at(first, offset), many, nil, 14)
			k.wantFrames(t, what, page)
			wantIn(t, what, k.s, at(first, offset), before(page), make([]byte, before(page)), 0)
			if page > first {
				wantIn(t, what, k.s, at(first, offset), before(page)+1, nil, 14)
			}
			if perm > 7 {
				continue
			}
			k.fill(t, first, first+8)
			same := k.same(t)
			wantIn(t, what, k.s, at(first, offset), many, nil, 14)
			wantIn(t, what, k.s, at(first, offset), before(page), marks(at(first, offset), before(page)), 0)
			wantIn(t, what, k.s, at(page+1, 0), 500, marks(at(page+1, 0), 500), 0)
			same(what)
		}
	}
}

// A page, whichever of them it is, that may not be written: the bytes of those before it are stored, no others.
func TestCI1OutFailures(t *testing.T) {
	for page := first; page < first+5; page++ {
		for _, perm := range []uint8{0, 1, 4, 5, 8} {
			what := fmt.Sprintf("Out where page %d has Perm %d", page, perm)
			k := made(t, 40, without(page, perm)...)
			wantOut(t, what, k.s, at(first, offset), some(many), before(page), 14)
			k.wantFrames(t, what, page)
			if page > first {
				stored := slices.Concat(make([]byte, offset), some(many)[:before(page)])
				k.wantBytes(t, what, first, stored)
			}
			if perm > 7 {
				continue
			}
			k = made(t, 40, without(page, perm)...).fill(t, first, first+5)
			wantOut(t, what, k.s, at(first, offset), some(many), before(page), 14)
			want := marks(at(first, 0), 5*256)
			copy(want[offset:], some(many)[:before(page)])
			k.wantBytes(t, what, first, want)
			same := k.same(t)
			wantOut(t, what, k.s, at(first, offset), some(before(page)), before(page), 0)
			same(what)
		}
	}
}

// Pages that may be written and not read, or the other way round.
func TestCI1Perms(t *testing.T) {
	for perm := range uint8(8) {
		k := made(t, 40, api.Region{From: 2, To: 5, Perm: perm}).fill(t, 2, 5)
		want, no := marks(at(2, 7), 600), api.Errno(0)
		if perm&api.Read == 0 {
			want, no = nil, 14
		}
		wantIn(t, fmt.Sprintf("In with Perm %d", perm), k.s, at(2, 7), 600, want, no)
		text := ""
		k.put(t, at(3, 0), []byte{0})
		if no == 0 {
			text = string(marks(at(2, 7), 249))
		}
		wantText(t, fmt.Sprintf("Text with Perm %d", perm), k.s, at(2, 7), 600, text, no)
		stored := 600
		no = 0
		if perm&api.Write == 0 {
			stored, no = 0, 14
		}
		wantOut(t, fmt.Sprintf("Out with Perm %d", perm), k.s, at(2, 7), some(600), stored, no)
	}
}

// Where there are frames for some of the pages alone; that of the table's second upper part counts, too.
func TestCI1NoFrames(t *testing.T) {
	for free, page := range []int{first, first, first + 1, first + 2, first + 3, first + 4, first + 4, first + 5} {
		in, out := fmt.Sprintf("In with %d frames free", free), fmt.Sprintf("Out with %d frames free", free)
		no, stored, read := api.Errno(12), before(page), []byte(nil)
		if page == first+5 {
			no, stored, read = 0, many, make([]byte, many)
		}
		k := made(t, 40, all).leave(t, free)
		wantIn(t, in, k.s, at(first, offset), many, read, no)
		k.wantFrames(t, in, page)
		k = made(t, 40, all).leave(t, free)
		wantOut(t, out, k.s, at(first, offset), some(many), stored, no)
		k.wantFrames(t, out, page)
		if page > first {
			want := make([]byte, (page-first)*256)
			copy(want[offset:], some(many)[:stored])
			k.wantBytes(t, out, first, want)
		}
		same := k.same(t)
		wantIn(t, "In of what is there", k.s, at(first, offset), stored, some(many)[:stored], 0)
		same("In of what is there")
	}
}

// Pages are accessed one after another: the first one's error is that of the call, whatever the others' would be.
func TestCI1Order(t *testing.T) {
	regions := []api.Region{{From: 2, To: 4, Perm: 3}, {From: 5, To: 6, Perm: 4}, {From: 6, To: 7, Perm: 3}}
	k := made(t, 40, regions...).fill(t, 2, 3).leave(t, 0)
	same := k.same(t)
	for _, r := range []struct {
		what        string
		page        int
		in, out, no api.Errno
		stored      int
	}{
		{"no frame, then no region", 3, 12, 12, 12, 0},
		{"a page, no frame, then no region", 2, 12, 12, 0, 256},
		{"no region, then no frame", 4, 14, 14, 14, 0},
		{"not to be read nor written, then no frame", 5, 14, 14, 14, 0},
		{"no frame, then no region, at the end", 6, 12, 12, 12, 0},
	} {
		wantIn(t, "In: "+r.what, k.s, at(r.page, 0), 1024, nil, r.in)
		wantOut(t, "Out: "+r.what, k.s, at(r.page, 0), marks(at(r.page, 0), 1024), r.stored, r.out)
		if r.no != 0 {
			wantText(t, "Text: "+r.what, k.s, at(r.page, 0), 1024, "", r.no)
		}
		wantIn(t, "In of too many: "+r.what, k.s, at(r.page, 0), 4097, nil, 22)
		wantOut(t, "Out of too many: "+r.what, k.s, at(r.page, 0), some(4097), 0, 22)
		wantText(t, "Text of too many: "+r.what, k.s, at(r.page, 0), 4097, "", 22)
	}
	same("calls with errors")
}

// No memory has the error of a page, where there is a byte.
func TestNoMemory(t *testing.T) {
	freed := made(t, 4, all).fill(t, 2, 3)
	freed.s.Free()
	var zero space.Space
	same := freed.same(t)
	for _, s := range []*space.Space{nil, freed.s, &zero} {
		for _, a := range append([]uint32{0, 4, at(2, 0), at(2, 252), at(4095, 252)}, beyond...) {
			for _, n := range []int{1, 2, 256, 257, 4096} {
				wantIn(t, "In of no memory", s, a, n, nil, 22)
				wantOut(t, "Out of no memory", s, a, some(n), 0, 22)
				wantText(t, "Text of no memory", s, a, n-1, "", 22)
			}
			wantPeek(t, "Peek of no memory", s, a&^3, 0, 22)
			wantPoke(t, "Poke of no memory", s, a&^3, 7, 22)
		}
	}
	same("calls of no memory")
}

// A text is read byte by byte: what lies behind its nought need not be there, and what lies behind most bytes and one is not read.
func TestCI2Behind(t *testing.T) {
	for _, perm := range []uint8{0, 2, 4, 6, 8} {
		what := fmt.Sprintf("Text where page %d has Perm %d", first+2, perm)
		k := made(t, 40, without(first+2, perm)...)
		text := marks(at(first, offset), 412)
		k.put(t, at(first, offset), text)
		for _, n := range []int{0, 1, 155, 156, 157, 410} {
			wantText(t, what+", and is not reached", k.s, at(first, offset), n, "", 36)
		}
		wantText(t, what+", and is not reached", k.s, at(first, offset), 411, "", 36)
		wantText(t, what, k.s, at(first, offset), 412, "", 14)
		wantText(t, what, k.s, at(first, offset), 4096, "", 14)
		k.wantFrames(t, what, first+2)
		k.put(t, at(first+1, 255), []byte{0})
		for _, most := range []int{411, 412, 500, 4096} {
			wantText(t, what, k.s, at(first, offset), most, string(text[:411]), 0)
		}
		wantText(t, what, k.s, at(first, offset), 410, "", 36)
		k.wantFrames(t, what, first+2)
		for _, most := range []int{0, 1, 4096} {
			wantText(t, what, k.s, at(first+2, 0), most, "", 14)
			wantText(t, what, k.s, at(first+2, 255), most, "", 14)
		}
		k.wantFrames(t, what, first+2)
	}
}

// A page is reached where a byte of the text is in it, and no earlier.
func TestCI2Frames(t *testing.T) {
	for _, free := range []int{0, 1} {
		k := made(t, 40, all)
		text := marks(at(2, 200), 56)
		k.put(t, at(2, 200), text)
		k.leave(t, free)
		wantText(t, "Text of a page", k.s, at(2, 200), 55, "", 36)
		k.wantPages(t, "Text of a page", 2)
		if free == 0 {
			wantText(t, "Text that goes on in a page for which no frame is free", k.s, at(2, 200), 56, "", 12)
			k.wantPages(t, "Text that goes on in a page for which no frame is free", 2)
			continue
		}
		wantText(t, "Text that goes on", k.s, at(2, 200), 56, string(text), 0)
		k.wantPages(t, "Text that goes on", 2, 3)
	}
	k := made(t, 40, all).leave(t, 1)
	same := k.same(t)
	wantText(t, "Text where one frame is free, and two are needed", k.s, at(2, 200), 55, "", 12)
	same("Text where one frame is free, and two are needed")
}
