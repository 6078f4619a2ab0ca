package space_test

import (
	"bytes"
	"errors"
	"fmt"
	"maps"
	"math"
	"slices"
	"testing"

	"halter/api"
	"halter/frames"
	"halter/phys"
	"halter/space"
)

// edges are pages at the ends of upper parts of a table, and of all.
var edges = []int{0, 1, 2, 62, 63, 64, 65, 127, 128, 2047, 2048, 4031, 4032, 4033, 4094, 4095}

// badPages are numbers that are no pages; many of them are one modulo a power of two.
var badPages = []int{
	math.MinInt, math.MinInt + 1, math.MinInt + 64, -1<<32 + 1, -1 << 32, math.MinInt32, -65536, -4097, -4096, -4095, -65, -64, -63, -2, -1,
	4096, 4097, 4159, 4160, 8191, 8192, 16384, 1 << 16, 1<<20 + 1, math.MaxInt32, 1 << 31, 1 << 32, 1<<32 + 63, math.MaxInt - 1, math.MaxInt,
}

// badRanges are no pages from one on, up to another one.
var badRanges = [][2]int{
	{0, 0}, {1, 1}, {2, 1}, {4096, 4096}, {4095, 4095}, {4096, 4095}, {-1, 1}, {-1, 0}, {-1, -1}, {-2, -1}, {0, -1}, {5, -5}, {4095, 0}, {0, 4097}, {4095, 4097}, {4096, 4097}, {-1, 4096}, {-1, 4097},
	{math.MinInt, 1}, {math.MinInt, math.MaxInt}, {0, math.MaxInt}, {math.MaxInt, math.MinInt}, {1 << 32, 1<<32 + 1}, {0, 1<<32 + 1}, {-1 << 32, 1}, {1 << 16, 1<<16 + 1}, {math.MaxInt - 1, math.MaxInt}, {math.MinInt, math.MinInt + 1},
}

func wantError(t *testing.T, what string, err error, want api.Errno) {
	t.Helper()
	var no api.Errno
	if !errors.As(err, &no) || no != want {
		t.Fatalf("%s: error %v, want %v", what, err, want)
	}
}

// wantAnswer holds an error against the one that is wanted; 0: none is.
func wantAnswer(t *testing.T, what string, err error, want api.Errno) {
	t.Helper()
	if want != 0 {
		wantError(t, what, err, want)
	} else if err != nil {
		t.Fatalf("%s: error %v, want none", what, err)
	}
}

// world is frames and their bytes, and what is in those that are no table's.
type world struct {
	f      *frames.Frames
	m      *phys.Memory
	many   int
	refs   map[int]int // how many memories have a frame for a page
	bytes  map[int][]byte
	others []int // what somebody else has taken
	all    []*model
}

// pattern is what lies in a frame that nobody has had: no noughts, so that they are not there by chance.
func pattern(frame int) []byte {
	b := make([]byte, api.Page)
	for n := range b {
		b[n] = byte(n*7+frame*13)%251 + 1
	}
	return b
}

// made is a world of so many frames, none of them taken.
func made(t *testing.T, many int) *world {
	t.Helper()
	f, err := frames.New(many)
	if err != nil {
		t.Fatalf("frames.New(%d): %v", many, err)
	}
	m, err := phys.New(many)
	if err != nil {
		t.Fatalf("phys.New(%d): %v", many, err)
	}
	for frame := range many {
		if err := m.Write(frame, 0, pattern(frame)); err != nil {
			t.Fatalf("phys.Write: %v", err)
		}
	}
	return &world{f: f, m: m, many: many, refs: map[int]int{}, bytes: map[int][]byte{}}
}

// take takes the least free frame for somebody else.
func (w *world) take(t *testing.T) {
	t.Helper()
	n, err := w.f.Alloc()
	if err != nil {
		t.Fatalf("frames.Alloc: %v", err)
	}
	b, err := w.m.Read(n, 0, api.Page)
	if err != nil {
		t.Fatalf("phys.Read: %v", err)
	}
	w.others, w.bytes[n] = append(w.others, n), b
}

// give gives back what somebody else has taken, the last one first.
func (w *world) give(t *testing.T) {
	t.Helper()
	last := len(w.others) - 1
	if _, err := w.f.Unref(w.others[last]); err != nil {
		t.Fatalf("frames.Unref: %v", err)
	}
	delete(w.bytes, w.others[last])
	w.others = w.others[:last]
}

// leave lets so many frames be free, by what somebody else takes or gives back.
func (w *world) leave(t *testing.T, free int) {
	t.Helper()
	for w.free() > free {
		w.take(t)
	}
	for w.free() < free {
		w.give(t)
	}
}

// free is how many frames should be.
func (w *world) free() int {
	free := w.many - len(w.others) - len(w.refs)
	for _, m := range w.all {
		free -= m.own()
	}
	return free
}

// state is all that there is of frames, and of their bytes, the free ones too.
func (w *world) state(t *testing.T) ([]int, [][]byte) {
	t.Helper()
	var refs []int
	var all [][]byte
	for frame := range w.many {
		b, err := w.m.Read(frame, 0, api.Page)
		if err != nil {
			t.Fatalf("phys.Read: %v", err)
		}
		refs, all = append(refs, w.f.Refs(frame)), append(all, b)
	}
	return refs, all
}

// same answers a function that holds that nothing has changed since.
func (w *world) same(t *testing.T) func(what string) {
	t.Helper()
	refs, all := w.state(t)
	return func(what string) {
		t.Helper()
		newRefs, newAll := w.state(t)
		if !slices.Equal(newRefs, refs) {
			t.Fatalf("%s: frames are taken %v times, want %v", what, newRefs, refs)
		}
		for frame := range all {
			if !bytes.Equal(newAll[frame], all[frame]) {
				t.Fatalf("%s: frame %d is %v, want %v", what, frame, newAll[frame], all[frame])
			}
		}
		w.check(t)
	}
}

// check holds the frames, and each memory, against what they should be.
func (w *world) check(t *testing.T) {
	t.Helper()
	if got, want := w.f.Free(), w.free(); got != want {
		t.Fatalf("%d frames are free, want %d", got, want)
	}
	for frame, want := range w.refs {
		if got := w.f.Refs(frame); got != want {
			t.Fatalf("frame %d is taken %d times, want %d", frame, got, want)
		}
	}
	for _, frame := range w.others {
		if got := w.f.Refs(frame); got != 1 {
			t.Fatalf("frame %d, which somebody else has, is taken %d times", frame, got)
		}
	}
	for frame, want := range w.bytes {
		if got, err := w.m.Read(frame, 0, api.Page); err != nil || !bytes.Equal(got, want) {
			t.Fatalf("frame %d: %v, %v, want %v", frame, got, err, want)
		}
	}
	for _, m := range w.all {
		m.check(t)
	}
}

// model is a memory beside what it should be: it does slowly what the chapter says.
type model struct {
	w      *world
	s      *space.Space
	perms  [api.Pages]int8 // below 0: there is no such page
	pages  map[int]int     // the frames of pages that have one
	uppers map[int]bool    // those for which the table has a frame
}

func (w *world) join(s *space.Space) *model {
	m := &model{w: w, s: s, pages: map[int]int{}, uppers: map[int]bool{}}
	for page := range m.perms {
		m.perms[page] = -1
	}
	w.all = append(w.all, m)
	return m
}

// begin is a new memory, for which a frame is free.
func (w *world) begin(t *testing.T) *model {
	t.Helper()
	s, err := space.New(w.f, w.m)
	if err != nil || s == nil {
		t.Fatalf("New: %v, %v", s, err)
	}
	return w.join(s)
}

// wantNoNew holds that New has an error, and changes nothing.
func (w *world) wantNoNew(t *testing.T, want api.Errno) {
	t.Helper()
	same := w.same(t)
	s, err := space.New(w.f, w.m)
	wantError(t, "New", err, want)
	if s != nil {
		t.Fatal("New: a memory beside an error")
	}
	same("New")
}

func (m *model) own() int { return 1 + len(m.uppers) }

func (m *model) has(page int) bool { return page >= 0 && page <= 4095 && m.perms[page] >= 0 }

func isRange(from, to int) bool { return from >= 0 && from < to && to <= 4096 }

// regions are the runs of pages that have the same Perm.
func (m *model) regions() []api.Region {
	var l []api.Region
	for page, perm := range m.perms {
		if perm < 0 {
			continue
		}
		last := len(l) - 1
		if last >= 0 && l[last].To == page && l[last].Perm == uint8(perm) {
			l[last].To++
			continue
		}
		l = append(l, api.Region{From: page, To: page + 1, Perm: uint8(perm)})
	}
	return l
}

// check holds all that the memory tells of itself against what it should be, and gives it no frame by that.
func (m *model) check(t *testing.T) {
	t.Helper()
	if got, want := m.s.Regions(), m.regions(); !slices.Equal(got, want) {
		t.Fatalf("Regions: %v, want %v", got, want)
	}
	if got, want := m.s.Pages(), slices.Sorted(maps.Keys(m.pages)); !slices.Equal(got, want) {
		t.Fatalf("Pages: %v, want %v", got, want)
	}
	if got, want := m.s.Own(), m.own(); got != want {
		t.Fatalf("Own: %d, want %d", got, want)
	}
	for page, frame := range m.pages {
		m.wantPage(t, page, m.w.bytes[frame])
	}
	for _, page := range edges {
		if _, ok := m.pages[page]; !ok {
			m.wantPage(t, page, nil)
		}
	}
}

func (m *model) wantPage(t *testing.T, page int, want []byte) {
	t.Helper()
	if got := m.s.Page(page); !bytes.Equal(got, want) {
		t.Fatalf("Page(%d): %v, want %v", page, got, want)
	}
}

// hold holds the error of a call against what it should be; if there is one, nothing may be changed.
func (m *model) hold(t *testing.T, what string, want api.Errno, call func() error) bool {
	t.Helper()
	if want == 0 {
		wantAnswer(t, what, call(), 0)
		return true
	}
	same := m.w.same(t)
	wantAnswer(t, what, call(), want)
	same(what)
	return false
}

// mapping maps a region.
func (m *model) mapping(t *testing.T, from, to int, perm uint8) {
	t.Helper()
	r, want := api.Region{From: from, To: to, Perm: perm}, api.Errno(0)
	if !isRange(from, to) || perm > 7 {
		want = api.ErrArg
	} else if slices.Max(m.perms[from:to]) >= 0 {
		want = api.ErrExist
	}
	if m.hold(t, fmt.Sprintf("Map(%v)", r), want, func() error { return m.s.Map(r) }) {
		for page := from; page < to; page++ {
			m.perms[page] = int8(perm)
		}
	}
}

// drop gives a page's frame back in the model.
func (m *model) drop(page int) {
	frame, ok := m.pages[page]
	if !ok {
		return
	}
	delete(m.pages, page)
	if m.w.refs[frame]--; m.w.refs[frame] == 0 {
		delete(m.w.refs, frame)
		delete(m.w.bytes, frame)
	}
}

// unmap unmaps pages.
func (m *model) unmap(t *testing.T, from, to int) {
	t.Helper()
	want := api.Errno(0)
	if !isRange(from, to) {
		want = api.ErrArg
	}
	if m.hold(t, fmt.Sprintf("Unmap(%d, %d)", from, to), want, func() error { return m.s.Unmap(from, to) }) {
		for page := from; page < to; page++ {
			m.perms[page] = -1
			m.drop(page)
		}
	}
}

// protect gives pages another Perm.
func (m *model) protect(t *testing.T, from, to int, perm uint8) {
	t.Helper()
	want := api.Errno(0)
	if !isRange(from, to) || perm > 7 {
		want = api.ErrArg
	} else if slices.Min(m.perms[from:to]) < 0 {
		want = api.ErrMemory
	}
	if m.hold(t, fmt.Sprintf("Protect(%d, %d, %d)", from, to, perm), want, func() error { return m.s.Protect(from, to, perm) }) {
		for page := from; page < to; page++ {
			m.perms[page] = int8(perm)
		}
	}
}

// may tells whether a page may be used so.
func (m *model) may(page int, use uint8) bool {
	switch use {
	case 0:
		return true
	case 1, 2, 4:
		return m.perms[page]&int8(use) != 0
	}
	return false
}

// reachable is the error that there should be when a page is reached.
func (m *model) reachable(page int, use uint8, force bool) api.Errno {
	if !m.has(page) || !force && !m.may(page, use) {
		return api.ErrFault
	}
	frame, ok := m.pages[page]
	need := 0
	switch {
	case ok && use == 2 && m.w.refs[frame] > 1:
		need = 1
	case !ok && m.uppers[page/64]:
		need = 1
	case !ok:
		need = 2
	}
	if m.w.free() < need {
		return api.ErrMemory
	}
	return 0
}

// reached does in the model what reaching a page does; which frame is taken is for the memory to choose.
func (m *model) reached(t *testing.T, what string, page int, use uint8) {
	t.Helper()
	got, err := m.s.Reach(page, 0)
	if err != nil {
		t.Fatalf("%s: afterwards Reach(%d, 0): %v", what, page, err)
	}
	old, ok := m.pages[page]
	if ok && (use != 2 || m.w.refs[old] == 1) {
		if got != old {
			t.Fatalf("%s: page %d is in frame %d, want %d, where it was", what, page, got, old)
		}
		return
	}
	if _, has := m.w.bytes[got]; has || got < 0 || got >= m.w.many {
		t.Fatalf("%s: page %d is in frame %d, which is not free", what, page, got)
	}
	b := make([]byte, api.Page)
	if ok {
		copy(b, m.w.bytes[old])
		m.w.refs[old]--
	}
	m.pages[page], m.uppers[page/64], m.w.refs[got], m.w.bytes[got] = got, true, 1, b
}

// reach reaches a page.
func (m *model) reach(t *testing.T, page int, use uint8) {
	t.Helper()
	what, frame := fmt.Sprintf("Reach(%d, %d)", page, use), 0
	ok := m.hold(t, what, m.reachable(page, use, false), func() (err error) {
		frame, err = m.s.Reach(page, use)
		return err
	})
	if ok {
		m.reached(t, what, page, use)
	}
	// Beside an error it is 0.
	if want := m.pages[page]; ok && frame != want || !ok && frame != 0 {
		t.Fatalf("%s: frame %d, want %d", what, frame, want)
	}
}

// within is the error that there should be before a page is reached, and the page and the offset.
func within(at uint32, n int) (int, int, api.Errno) {
	page, off := int(at>>8), int(at&255)
	if page > 4095 || n < 0 || n > 256 || off+n > 256 {
		return page, off, api.ErrFault
	}
	return page, off, 0
}

// read reads bytes.
func (m *model) read(t *testing.T, at uint32, n int, use uint8) {
	t.Helper()
	page, off, want := within(at, n)
	if want == 0 {
		want = m.reachable(page, use, false)
	}
	what, b := fmt.Sprintf("Read(%d, %d, %d)", at, n, use), []byte(nil)
	ok := m.hold(t, what, want, func() (err error) {
		b, err = m.s.Read(at, n, use)
		return err
	})
	if !ok {
		if len(b) != 0 {
			t.Fatalf("%s: %v beside an error", what, b)
		}
		return
	}
	m.reached(t, what, page, use)
	if want := m.w.bytes[m.pages[page]][off : off+n]; !bytes.Equal(b, want) {
		t.Fatalf("%s: %v, want %v", what, b, want)
	}
}

// write writes bytes.
func (m *model) write(t *testing.T, at uint32, b []byte, force bool) {
	t.Helper()
	page, off, want := within(at, len(b))
	if want == 0 {
		want = m.reachable(page, 2, force)
	}
	what := fmt.Sprintf("Write(%d, %d bytes, %v)", at, len(b), force)
	given := slices.Clone(b)
	ok := m.hold(t, what, want, func() error { return m.s.Write(at, given, force) })
	if !bytes.Equal(given, b) {
		t.Fatalf("%s: the bytes that were given are changed to %v", what, given)
	}
	if ok {
		m.reached(t, what, page, 2)
		copy(m.w.bytes[m.pages[page]][off:], b)
	}
}

// fork is a fork; nil if there should be none.
func (m *model) fork(t *testing.T) *model {
	t.Helper()
	uppers := map[int]bool{}
	for page := range m.pages {
		uppers[page/64] = true
	}
	want, s := api.Errno(0), (*space.Space)(nil)
	if m.w.free() < 1+len(uppers) {
		want = api.ErrMemory
	}
	ok := m.hold(t, "Fork", want, func() (err error) {
		s, err = m.s.Fork()
		return err
	})
	if (s != nil) != ok {
		t.Fatalf("Fork: %v", s)
	}
	if !ok {
		return nil
	}
	child := m.w.join(s)
	child.perms, child.pages, child.uppers = m.perms, maps.Clone(m.pages), uppers
	for _, frame := range m.pages {
		m.w.refs[frame]++
	}
	return child
}

// free frees the memory; the model is no memory of the world's from then on.
func (m *model) free(t *testing.T) {
	t.Helper()
	m.s.Free()
	for page := range m.pages {
		m.drop(page)
	}
	m.w.all = slices.DeleteFunc(m.w.all, func(other *model) bool { return other == m })
	m.w.wantGone(t, m.s)
}

// wantGone holds that a memory answers as a nil one, and does nothing.
func (w *world) wantGone(t *testing.T, s *space.Space) {
	t.Helper()
	same := w.same(t)
	for _, page := range []int{math.MinInt, -1, 0, 1, 64, 4095, 4096, math.MaxInt} {
		for _, use := range []uint8{0, 1, 2, 4, 3, 255} {
			frame, err := s.Reach(page, use)
			wantError(t, fmt.Sprintf("Reach(%d, %d) of no memory", page, use), err, api.ErrArg)
			if frame != 0 {
				t.Fatalf("Reach(%d, %d) of no memory: %d", page, use, frame)
			}
		}
		if b := s.Page(page); len(b) != 0 {
			t.Fatalf("Page(%d) of no memory: %v", page, b)
		}
		wantError(t, "Map of no memory", s.Map(api.Region{From: page, To: page + 1, Perm: 3}), api.ErrArg)
		wantError(t, "Unmap of no memory", s.Unmap(page, page+1), api.ErrArg)
		wantError(t, "Protect of no memory", s.Protect(page, page+1, 1), api.ErrArg)
	}
	for _, at := range []uint32{0, 1, 255, 256, 1<<20 - 1, 1 << 20, math.MaxUint32} {
		for _, n := range []int{math.MinInt, -1, 0, 1, 256, 257, math.MaxInt} {
			b, err := s.Read(at, n, 0)
			wantError(t, fmt.Sprintf("Read(%d, %d) of no memory", at, n), err, api.ErrArg)
			if len(b) != 0 {
				t.Fatalf("Read(%d, %d) of no memory: %v", at, n, b)
			}
		}
		for _, n := range []int{0, 1, 256, 257} {
			wantError(t, "Write of no memory", s.Write(at, make([]byte, n), false), api.ErrArg)
			wantError(t, "Write of no memory", s.Write(at, make([]byte, n), true), api.ErrArg)
		}
	}
	child, err := s.Fork()
	wantError(t, "Fork of no memory", err, api.ErrArg)
	if child != nil {
		t.Fatal("Fork of no memory: a memory")
	}
	s.Free()
	if l := s.Regions(); len(l) != 0 {
		t.Fatalf("Regions of no memory: %v", l)
	}
	if l := s.Pages(); len(l) != 0 {
		t.Fatalf("Pages of no memory: %v", l)
	}
	if n := s.Own(); n != 0 {
		t.Fatalf("Own of no memory: %d", n)
	}
	same("calls of no memory")
}
