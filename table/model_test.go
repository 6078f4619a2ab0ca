package table_test

import (
	"bytes"
	"errors"
	"fmt"
	"maps"
	"math"
	"slices"
	"testing"

	"halter/api"
	"halter/entry"
	"halter/frames"
	"halter/phys"
	"halter/table"
)

// edges are pages at the ends of upper parts, and of all.
var edges = []int{0, 1, 62, 63, 64, 65, 127, 128, 2047, 2048, 4031, 4032, 4033, 4094, 4095}

// badPages are numbers that are no pages; many of them are one modulo a power of two.
var badPages = []int{
	math.MinInt, math.MinInt + 1, math.MinInt + 64, -1<<32 + 1, -1 << 32, math.MinInt32, -65536, -4097, -4096, -4095, -65, -64, -63, -2, -1,
	4096, 4097, 4159, 4160, 8191, 8192, 16384, 1 << 16, 1<<20 + 1, math.MaxInt32, 1 << 31, 1 << 32, 1<<32 + 63, math.MaxInt - 1, math.MaxInt,
}

// badEntries are entries that may not be.
var badEntries = []entry.Entry{
	{Frame: -1}, {Frame: 1024}, {Perm: 8}, {Frame: 1023, Perm: 8, Cow: true}, {Perm: 255}, {Frame: -1, Perm: 8}, {Frame: 1024, Perm: 255, Cow: true},
	{Frame: -1024, Perm: 1}, {Frame: 1025, Perm: 7}, {Frame: 1 << 24, Perm: 1}, {Frame: 1<<32 + 1, Perm: 1}, {Frame: math.MinInt}, {Frame: math.MaxInt},
}

func wantError(t *testing.T, what string, err error, want api.Errno) {
	t.Helper()
	var no api.Errno
	if !errors.As(err, &no) || no != want {
		t.Fatalf("%s: error %v, want %v", what, err, want)
	}
}

// world is frames and their bytes, and what both should be.
type world struct {
	f     *frames.Frames
	m     *phys.Memory
	refs  []int
	bytes [][]byte
}

// made is a world whose frames, none of them taken, are full of what would be entries.
func made(t *testing.T, many, memory int) *world {
	t.Helper()
	f, err := frames.New(many)
	if err != nil {
		t.Fatalf("frames.New(%d): %v", many, err)
	}
	m, err := phys.New(memory)
	if err != nil {
		t.Fatalf("phys.New(%d): %v", memory, err)
	}
	w := &world{f: f, m: m, refs: make([]int, many)}
	for frame := range memory {
		b := make([]byte, api.Page)
		for place := range 64 {
			lay(b, place, entry.Entry{Frame: (frame*5 + place) % 1024, Perm: uint8(place % 8), Cow: frame%2 == 0})
		}
		w.bytes = append(w.bytes, b)
		if err := m.Write(frame, 0, b); err != nil {
			t.Fatalf("phys.Write: %v", err)
		}
	}
	return w
}

// full is a world of so many frames, all of which are taken but those that are named.
func full(t *testing.T, many int, free ...int) *world {
	t.Helper()
	w := made(t, many, many)
	for range many {
		w.take(t)
	}
	for _, n := range free {
		w.give(t, n)
	}
	return w
}

// lay writes the number of an entry into a frame's bytes, as layers 1 and 6 say.
func lay(b []byte, place int, e entry.Entry) {
	b[4*place] = 128 + e.Perm
	if e.Cow {
		b[4*place] += 8
	}
	b[4*place+1], b[4*place+2], b[4*place+3] = byte(e.Frame%256), byte(e.Frame/256), 0
}

// take takes the least free frame for somebody else.
func (w *world) take(t *testing.T) {
	t.Helper()
	want := slices.Index(w.refs, 0)
	n, err := w.f.Alloc()
	if n != want || err != nil {
		t.Fatalf("frames.Alloc: %d, %v, want %d", n, err, want)
	}
	w.refs[n] = 1
}

// give gives a frame of somebody else back.
func (w *world) give(t *testing.T, n int) {
	t.Helper()
	if _, err := w.f.Unref(n); err != nil {
		t.Fatalf("frames.Unref(%d): %v", n, err)
	}
	w.refs[n]--
}

// own takes the least free frame in the model alone, full of noughts; -1 if none is free.
func (w *world) own() int {
	n := slices.Index(w.refs, 0)
	if n >= 0 {
		w.refs[n], w.bytes[n] = 1, make([]byte, api.Page)
	}
	return n
}

// check holds the frames and all bytes against what they should be.
func (w *world) check(t *testing.T) {
	t.Helper()
	for n, want := range w.refs {
		if got := w.f.Refs(n); got != want {
			t.Fatalf("frame %d is taken %d times, want %d", n, got, want)
		}
	}
	for n, want := range w.bytes {
		if got, err := w.m.Read(n, 0, api.Page); err != nil || !bytes.Equal(got, want) {
			t.Fatalf("frame %d: %v, %v, want %v", n, got, err, want)
		}
	}
}

// wantNoNew holds that New has an error, and changes nothing.
func (w *world) wantNoNew(t *testing.T, want api.Errno) {
	t.Helper()
	x, err := table.New(w.f, w.m)
	wantError(t, "New", err, want)
	if x != nil {
		t.Fatal("New: a table beside an error")
	}
	w.check(t)
}

// model is a table beside what it should be: it does slowly what the chapter says.
type model struct {
	w       *world
	t       *table.Table
	first   int
	lowers  map[int]int
	entries map[int]entry.Entry
}

// begin is a new table, for which a frame is free.
func (w *world) begin(t *testing.T) *model {
	t.Helper()
	x, err := table.New(w.f, w.m)
	if err != nil || x == nil {
		t.Fatalf("New: %v, %v", x, err)
	}
	return &model{w: w, t: x, first: w.own(), lowers: map[int]int{}, entries: map[int]entry.Entry{}}
}

func isPage(page int) bool { return page >= 0 && page <= 4095 }

func isEntry(e entry.Entry) bool { return e.Frame >= 0 && e.Frame <= 1023 && e.Perm <= 7 }

// set sets an entry, and holds the error against what it should be.
func (m *model) set(t *testing.T, page int, e entry.Entry) {
	t.Helper()
	what, err := fmt.Sprintf("Set(%d, %+v)", page, e), m.t.Set(page, e)
	if !isPage(page) || !isEntry(e) {
		wantError(t, what, err, api.ErrArg)
		return
	}
	frame, ok := m.lowers[page/64]
	if !ok {
		frame = m.w.own()
	}
	if frame < 0 {
		wantError(t, what, err, api.ErrMemory)
		return
	}
	if err != nil {
		t.Fatalf("%s: %v", what, err)
	}
	m.lowers[page/64], m.entries[page] = frame, e
	lay(m.w.bytes[m.first], page/64, entry.Entry{Frame: frame, Perm: api.Read})
	lay(m.w.bytes[frame], page%64, e)
}

// clear clears a page, and holds the error against what it should be.
func (m *model) clear(t *testing.T, page int) {
	t.Helper()
	what, err := fmt.Sprintf("Clear(%d)", page), m.t.Clear(page)
	if !isPage(page) {
		wantError(t, what, err, api.ErrArg)
		return
	}
	if err != nil {
		t.Fatalf("%s: %v", what, err)
	}
	if frame, ok := m.lowers[page/64]; ok {
		copy(m.w.bytes[frame][4*(page%64):], []byte{0, 0, 0, 0})
	}
	delete(m.entries, page)
}

// free frees the table; the model has no frames from then on.
func (m *model) free(t *testing.T) {
	t.Helper()
	m.t.Free()
	m.w.refs[m.first]--
	for _, frame := range m.lowers {
		m.w.refs[frame]--
	}
	wantGone(t, m.t)
}

// get holds the answer for a page against what it should be.
func (m *model) get(t *testing.T, page int) {
	t.Helper()
	e, ok, err := m.t.Get(page)
	if !isPage(page) {
		wantError(t, fmt.Sprintf("Get(%d)", page), err, api.ErrArg)
	} else if err != nil {
		t.Fatalf("Get(%d): %v", page, err)
	}
	if want, isThere := m.entries[page]; e != want || ok != isThere {
		t.Fatalf("Get(%d): %+v, %v, want %+v, %v", page, e, ok, want, isThere)
	}
}

// glance holds some pages, and what the table tells of itself, against what they should be.
func (m *model) glance(t *testing.T, pages ...int) {
	t.Helper()
	for _, page := range pages {
		m.get(t, page)
	}
	if got, want := m.t.Frames(), 1+len(m.lowers); got != want {
		t.Fatalf("Frames: %d, want %d", got, want)
	}
	if got, want := m.t.Pages(), slices.Sorted(maps.Keys(m.entries)); !slices.Equal(got, want) {
		t.Fatalf("Pages: %v, want %v", got, want)
	}
}

// check holds everything against what it should be.
func (m *model) check(t *testing.T) {
	t.Helper()
	for page := range 4096 {
		m.get(t, page)
	}
	m.glance(t, badPages...)
	m.w.check(t)
}

// wantGone holds that a table answers as a nil one.
func wantGone(t *testing.T, x *table.Table) {
	t.Helper()
	for _, page := range slices.Concat(edges, badPages) {
		e, ok, err := x.Get(page)
		wantError(t, fmt.Sprintf("Get(%d) of no table", page), err, api.ErrArg)
		if ok || e != (entry.Entry{}) {
			t.Fatalf("Get(%d) of no table: %+v, %v beside an error", page, e, ok)
		}
		wantError(t, fmt.Sprintf("Set(%d) of no table", page), x.Set(page, entry.Entry{Frame: 1, Perm: 1}), api.ErrArg)
		wantError(t, fmt.Sprintf("Set(%d) of no table, of no entry", page), x.Set(page, entry.Entry{Frame: -1}), api.ErrArg)
		wantError(t, fmt.Sprintf("Clear(%d) of no table", page), x.Clear(page), api.ErrArg)
	}
	if got := x.Pages(); len(got) != 0 {
		t.Fatalf("Pages of no table: %v", got)
	}
	if got := x.Frames(); got != 0 {
		t.Fatalf("Frames of no table: %d", got)
	}
}
