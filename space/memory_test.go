package space_test

import (
	"bytes"
	"slices"
	"testing"

	"halter/api"
	"halter/space"
)

// two is a memory with two pages that are full, and one that has no frame.
func two(t *testing.T) *model {
	t.Helper()
	m := made(t, 20).begin(t)
	m.mapping(t, 3, 5, 7)
	m.mapping(t, 5, 6, 1)
	m.write(t, at(3, 0), some(256), false)
	m.write(t, at(4, 0), some(256), false)
	return m
}

// spoil writes over a list, and over its spare capacity.
func spoil[T any](l []T, v T) {
	l = l[:cap(l)]
	for n := range l {
		l[n] = v
	}
}

// What an answer becomes changes neither the memory nor another answer.
func TestAnswersAreNew(t *testing.T) {
	m := two(t)
	child := m.fork(t)
	for _, x := range []*model{m, child} {
		regions, pages, page := x.s.Regions(), x.s.Pages(), x.s.Page(3)
		read, err := x.s.Read(at(4, 10), 20, 1)
		if err != nil {
			t.Fatal(err)
		}
		wantRegions, wantPages, wantPage, wantRead := slices.Clone(regions), slices.Clone(pages), slices.Clone(page), slices.Clone(read)
		spoil(x.s.Regions(), api.Region{From: -1, To: 99, Perm: 99})
		spoil(x.s.Pages(), -7)
		spoil(x.s.Page(3), 255)
		for _, n := range []int{0, 1, 20, 256} {
			b, err := x.s.Read(at(4, 0), n, 1)
			if err != nil {
				t.Fatal(err)
			}
			spoil(b, 255)
		}
		if !slices.Equal(regions, wantRegions) || !slices.Equal(pages, wantPages) || !bytes.Equal(page, wantPage) || !bytes.Equal(read, wantRead) {
			t.Error("an answer is changed when another one is written over")
		}
		m.w.check(t)
		spoil(regions, api.Region{From: 0, To: 1, Perm: 7})
		spoil(pages, 0)
		spoil(page, 0)
		spoil(read, 0)
		m.w.check(t)
	}
}

// What a memory does later on changes no answer that was given.
func TestAnswersStay(t *testing.T) {
	m := two(t)
	regions, pages, page := m.s.Regions(), m.s.Pages(), m.s.Page(3)
	read, err := m.s.Read(at(3, 0), 256, 1)
	if err != nil {
		t.Fatal(err)
	}
	child := m.fork(t)
	for _, x := range []*model{child, m} {
		x.write(t, at(3, 0), make([]byte, 256), false)
		x.protect(t, 3, 4, 2)
		x.unmap(t, 4, 5)
		x.mapping(t, 4, 5, 6)
		x.mapping(t, 0, 1, 3)
		x.fill(t, 0, 5)
		x.free(t)
	}
	if want := []api.Region{{From: 3, To: 5, Perm: 7}, {From: 5, To: 6, Perm: 1}}; !slices.Equal(regions, want) {
		t.Errorf("Regions: %v, want %v", regions, want)
	}
	if !slices.Equal(pages, []int{3, 4}) {
		t.Errorf("Pages: %v, want 3 and 4", pages)
	}
	if !bytes.Equal(page, some(256)) || !bytes.Equal(read, some(256)) {
		t.Errorf("Page: %v, Read: %v", page, read)
	}
}

// Bytes that are given are neither changed nor kept, nor is what lies behind them.
func TestBytesAreNotKept(t *testing.T) {
	for _, n := range []int{0, 1, 5, 256} {
		for _, force := range []bool{false, true} {
			m := two(t)
			child := m.fork(t)
			for _, x := range []*model{m, child} {
				all := some(400)
				given := all[10 : 10+n]
				if err := x.s.Write(at(3, 0), given, force); err != nil {
					t.Fatal(err)
				}
				if !bytes.Equal(all, some(400)) {
					t.Errorf("the bytes that were given are changed: %v", all)
				}
				want := slices.Concat(some(400)[10:10+n], some(256)[n:])
				spoil(all, 255)
				if got := x.s.Page(3); !bytes.Equal(got, want) {
					t.Errorf("Page(3): %v, want %v", got, want)
				}
				wantError(t, "Write", x.s.Write(at(3, 0), all, force), api.ErrFault)
			}
		}
	}
}

// A nil list of bytes is as an empty one.
func TestNilBytes(t *testing.T) {
	for _, b := range [][]byte{nil, {}, some(9)[:0]} {
		m := two(t)
		for _, a := range []uint32{at(3, 0), at(3, 255)} {
			m.write(t, a, b, false)
		}
		m.write(t, at(5, 7), b, true)
		m.write(t, at(5, 7), b, false)
		m.write(t, at(6, 7), b, true)
		m.w.check(t)
	}
}

// Two memories of other frames have nothing to do with each other.
func TestWorldsApart(t *testing.T) {
	m, other := two(t), two(t)
	m.write(t, at(3, 0), make([]byte, 256), false)
	m.unmap(t, 4, 5)
	m.mapping(t, 0, 1, 3)
	other.w.check(t)
	m.free(t)
	other.fill(t, 3, 5)
	other.w.check(t)
}

// The same calls have the same answers.
func TestAgain(t *testing.T) {
	m := two(t)
	for range 5 {
		m.read(t, at(3, 0), 256, 1)
		m.read(t, at(6, 0), 1, 1)
		m.mapping(t, 4, 6, 1)
		m.protect(t, 4, 7, 1)
		m.reach(t, 5, 1)
		m.reach(t, 5, 2)
		m.write(t, at(3, 7), some(9), false)
		m.protect(t, 4, 5, 3)
		m.unmap(t, 60, 70)
		m.w.check(t)
	}
}

// A frame can be taken 2^30 times and no more: a fork that can't have it is none, and what it has taken it gives back.
func TestForkOfFrameTakenTooOften(t *testing.T) {
	t.Parallel()
	m := two(t)
	m.fill(t, 5)
	frame, err := m.s.Reach(4, 0)
	if err != nil {
		t.Fatal(err)
	}
	for range 1<<30 - 1 {
		if err := m.w.f.Ref(frame); err != nil {
			t.Fatal(err)
		}
	}
	s, err := m.s.Fork()
	if err == nil || s != nil {
		t.Errorf("Fork: %v, %v", s, err)
	}
	m.w.refs[frame] = 1 << 30
	m.w.check(t)
}

// No address makes the memory panic, nor does an object that New did not make.
func TestZeroSpace(t *testing.T) {
	w := made(t, 3)
	var s space.Space
	w.wantGone(t, &s)
	w.wantGone(t, new(space.Space))
}
