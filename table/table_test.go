package table_test

import (
	"bytes"
	"slices"
	"testing"

	"halter/api"
	"halter/entry"
	"halter/frames"
	"halter/phys"
	"halter/table"
)

// plain is an entry that tells a page from others.
func plain(page int) entry.Entry {
	return entry.Entry{Frame: page % 1024, Perm: uint8(page/1024+page) % 8, Cow: page/512%2 == 1}
}

func wantTaken(t *testing.T, f *frames.Frames, want ...int) {
	t.Helper()
	if got := f.Taken(); !slices.Equal(got, want) {
		t.Fatalf("taken: %v, want %v", got, want)
	}
}

func wantBytes(t *testing.T, m *phys.Memory, frame, off int, want ...byte) {
	t.Helper()
	if got, err := m.Read(frame, off, len(want)); err != nil || !bytes.Equal(got, want) {
		t.Fatalf("frame %d from %d on: %v, %v, want %v", frame, off, got, err, want)
	}
}

func TestTB1New(t *testing.T) {
	for _, many := range []int{1, 2, 3, 64, 65, 1024} {
		w := made(t, many, many)
		x := w.begin(t)
		wantTaken(t, w.f, 0)
		wantBytes(t, w.m, 0, 0, make([]byte, api.Page)...)
		if got := x.t.Frames(); got != 1 {
			t.Errorf("Frames: %d, want 1", got)
		}
		if got := x.t.Pages(); len(got) != 0 {
			t.Errorf("Pages: %v, want none", got)
		}
		x.check(t)
	}
}

func TestTB1TakesTheLeastFrame(t *testing.T) {
	for _, free := range [][]int{{1}, {4, 2}, {7}, {0, 7}, {3, 5, 6}} {
		w := full(t, 8, free...)
		x := w.begin(t)
		if got := w.f.Refs(slices.Min(free)); got != 1 {
			t.Errorf("of the free frames %v, the least is taken %d times", free, got)
		}
		x.check(t)
	}
	w := made(t, 4, 4)
	w.take(t)
	w.take(t)
	w.begin(t).check(t)
	wantTaken(t, w.f, 0, 1, 2)
}

// Free and taken frames together are all that count, also where none or all of them are taken.
func TestTB1SmallMemory(t *testing.T) {
	for _, many := range []int{2, 3, 8, 65, 1024} {
		for _, memory := range []int{1, many / 2, many - 1} {
			for _, taken := range []int{0, 1, many / 2, many - 1, many} {
				w := made(t, many, memory)
				for range taken {
					w.take(t)
				}
				w.wantNoNew(t, api.ErrArg)
			}
		}
	}
}

func TestTB1GreaterMemory(t *testing.T) {
	for _, many := range []int{1, 2, 3, 8, 65, 1023} {
		for _, memory := range []int{many, many + 1, 2 * many, 1024} {
			if memory > 1024 {
				continue
			}
			w := made(t, many, memory)
			x := w.begin(t)
			for _, page := range edges {
				x.set(t, page, plain(page))
			}
			x.check(t)
		}
	}
}

func TestTB1NoneFree(t *testing.T) {
	for _, many := range []int{1, 2, 7, 1024} {
		w := full(t, many)
		w.wantNoNew(t, api.ErrMemory)
		w.wantNoNew(t, api.ErrMemory)
		w.give(t, many-1)
		w.begin(t).check(t)
		w.wantNoNew(t, api.ErrMemory)
	}
}

func TestTB1Nil(t *testing.T) {
	for _, w := range []*world{made(t, 3, 3), full(t, 3), made(t, 3, 2)} {
		for _, c := range []struct {
			f *frames.Frames
			m *phys.Memory
		}{{nil, nil}, {w.f, nil}, {nil, w.m}} {
			x, err := table.New(c.f, c.m)
			wantError(t, "New", err, api.ErrArg)
			if x != nil {
				t.Error("New: a table beside an error")
			}
			w.check(t)
		}
	}
}

// The bytes of a table, written out.
func TestTB2Bytes(t *testing.T) {
	w := made(t, 8, 8)
	w.take(t)
	x := w.begin(t)
	x.set(t, 64, entry.Entry{Frame: 0x203, Perm: api.Read | api.Write, Cow: true})
	wantBytes(t, w.m, 1, 0, 0, 0, 0, 0, 0x81, 2, 0, 0, 0, 0, 0, 0)
	wantBytes(t, w.m, 2, 0, 0x8b, 3, 2, 0, 0, 0, 0, 0)
	x.set(t, 65, entry.Entry{})
	wantBytes(t, w.m, 2, 0, 0x8b, 3, 2, 0, 0x80, 0, 0, 0, 0, 0, 0, 0)
	x.set(t, 4095, entry.Entry{Frame: 1023, Perm: 7})
	wantBytes(t, w.m, 1, 248, 0, 0, 0, 0, 0x81, 3, 0, 0)
	wantBytes(t, w.m, 3, 248, 0, 0, 0, 0, 0x87, 0xff, 3, 0)
	x.set(t, 0, entry.Entry{Frame: 1, Perm: api.Exec})
	wantBytes(t, w.m, 1, 0, 0x81, 4, 0, 0, 0x81, 2, 0, 0)
	wantBytes(t, w.m, 4, 0, 0x84, 1, 0, 0, 0, 0, 0, 0)
	wantTaken(t, w.f, 0, 1, 2, 3, 4)
	x.clear(t, 64)
	wantBytes(t, w.m, 1, 0, 0x81, 4, 0, 0, 0x81, 2, 0, 0)
	wantBytes(t, w.m, 2, 0, 0, 0, 0, 0, 0x80, 0, 0, 0)
	x.check(t)
}

// A table is what lies in its frames.
func TestTB2IsInMemory(t *testing.T) {
	w := made(t, 4, 4)
	x := w.begin(t)
	x.set(t, 0, entry.Entry{Frame: 9, Perm: 1})
	if err := w.m.Write(1, 4, []byte{0x8f, 7, 1, 0}); err != nil {
		t.Fatal(err)
	}
	lay(w.bytes[1], 1, entry.Entry{Frame: 0x107, Perm: 7, Cow: true})
	x.entries[1] = entry.Entry{Frame: 0x107, Perm: 7, Cow: true}
	x.check(t)
}

// Whatever is written over the frames of a table, its calls end, and none of them panics.
func TestTB2Scribbled(t *testing.T) {
	for _, number := range [][]byte{{1, 0, 0, 0}, {0xff, 0xff, 0xff, 0xff}, {0x81, 0, 0, 0}, {0x81, 0xff, 3, 0}, {0x81, 0, 4, 0}} {
		for frame := range 2 {
			w := made(t, 4, 4)
			x := w.begin(t).t
			if err := x.Set(5, plain(5)); err != nil {
				t.Fatal(err)
			}
			if err := w.m.Write(frame, 0, bytes.Repeat(number, 64)); err != nil {
				t.Fatal(err)
			}
			for _, page := range edges {
				x.Get(page)
				x.Clear(page)
				x.Set(page, plain(page))
			}
			x.Pages()
			x.Frames()
			x.Free()
			wantGone(t, x)
		}
	}
}

func TestTB2Edges(t *testing.T) {
	for _, page := range edges {
		x := made(t, 2, 2).begin(t)
		x.set(t, page, plain(page))
		x.check(t)
		x.set(t, page, plain(page+9))
		x.check(t)
		x.clear(t, page)
		x.check(t)
		x.clear(t, page)
		x.set(t, page, plain(page+3))
		x.check(t)
	}
	x := made(t, 1024, 1024).begin(t)
	for _, page := range edges {
		x.set(t, page, plain(page))
	}
	x.check(t)
}

// One frame after New; two with pages of one upper part, three with those of two.
func TestTB2Frames(t *testing.T) {
	x := made(t, 1024, 1024).begin(t)
	for _, c := range []struct{ page, want int }{{0, 2}, {63, 2}, {0, 2}, {31, 2}, {64, 3}, {127, 3}, {4095, 4}, {4032, 4}, {4031, 5}, {128, 6}} {
		x.set(t, c.page, plain(c.page))
		if got := x.t.Frames(); got != c.want {
			t.Errorf("with page %d: %d frames, want %d", c.page, got, c.want)
		}
	}
	for _, page := range []int{0, 31, 63, 64, 127, 128, 4031, 4032, 4095} {
		x.clear(t, page)
		if got := x.t.Frames(); got != 6 {
			t.Errorf("without page %d: %d frames, want 6", page, got)
		}
	}
	x.check(t)
	x.set(t, 63, plain(63))
	x.check(t)
}

// Upper parts get their frames as they come, the least free one each.
func TestTB2TakesTheLeastFrame(t *testing.T) {
	w := full(t, 12, 10, 3, 8, 5)
	x := w.begin(t)
	for i, page := range []int{4095, 70, 0} {
		x.set(t, page, plain(page))
		wantBytes(t, w.m, 3, page/64*4, 0x81, []byte{5, 8, 10}[i], 0, 0)
	}
	x.check(t)
}

func TestTB2EveryPage(t *testing.T) {
	for _, by := range []int{1, 4095, 1237} { // upwards, downwards and mixed
		w := made(t, 66, 66)
		x := w.begin(t)
		for i := range 4096 {
			page := i * by % 4096
			x.set(t, page, plain(page))
			if i%512 == 0 {
				x.check(t)
			}
		}
		x.check(t)
		if x.t.Frames() != 65 || len(x.t.Pages()) != 4096 || w.f.Free() != 1 {
			t.Errorf("%d frames, %d pages, %d free", x.t.Frames(), len(x.t.Pages()), w.f.Free())
		}
		for i := range 4096 {
			x.clear(t, i*by%4096)
			if i%512 == 0 {
				x.check(t)
			}
		}
		x.check(t)
	}
}

func TestTB2EveryEntry(t *testing.T) {
	w := made(t, 3, 3)
	x := w.begin(t)
	x.set(t, 199, plain(1))
	x.set(t, 201, plain(2))
	for frame := range 1024 {
		for perm := range uint8(8) {
			for _, cow := range []bool{false, true} {
				x.set(t, 200, entry.Entry{Frame: frame, Perm: perm, Cow: cow})
				x.get(t, 200)
			}
		}
		w.check(t)
	}
	x.check(t)
}

// An entry without any use, for frame 0, is one.
func TestTB2LeastEntry(t *testing.T) {
	x := made(t, 3, 3).begin(t)
	x.set(t, 70, entry.Entry{})
	if e, ok, err := x.t.Get(70); e != (entry.Entry{}) || !ok || err != nil {
		t.Errorf("Get: %+v, %v, %v, want the least entry and true", e, ok, err)
	}
	if e, ok, err := x.t.Get(71); e != (entry.Entry{}) || ok || err != nil {
		t.Errorf("Get: %+v, %v, %v, want none and false", e, ok, err)
	}
	x.check(t)
}

// An entry may name any frame, also one that there is not, that is free or that is the table's own.
func TestTB2FramesOfEntries(t *testing.T) {
	w := made(t, 3, 3)
	x := w.begin(t)
	for page, frame := range []int{0, 1, 2, 3, 1023} {
		x.set(t, page, entry.Entry{Frame: frame, Perm: 7})
	}
	x.check(t)
	wantTaken(t, w.f, 0, 1)
}

func TestTB2SetAgain(t *testing.T) {
	w := made(t, 2, 2)
	x := w.begin(t)
	for _, e := range []entry.Entry{{Frame: 1023, Perm: 7, Cow: true}, {Frame: 256}, {}, {Cow: true}, {Frame: 255, Perm: 5}, {Frame: 255, Perm: 5}, {Perm: 2}} {
		x.set(t, 77, e)
		x.check(t)
	}
	if w.f.Free() != 0 {
		t.Errorf("%d frames free, want 0", w.f.Free())
	}
}

// Where an upper part has no frame yet and none is free, Set changes nothing; where it has one, Set works.
func TestTB2NoneFree(t *testing.T) {
	w := full(t, 3, 0, 2)
	x := w.begin(t)
	x.set(t, 130, plain(130))
	for _, page := range []int{0, 64, 127, 192, 4095} {
		wantError(t, "Set with none free", x.t.Set(page, plain(page)), api.ErrMemory)
		x.check(t)
	}
	for _, page := range []int{128, 130, 191} {
		if err := x.t.Set(page, plain(page+5)); err != nil {
			t.Fatalf("Set(%d) in a frame that there is: %v", page, err)
		}
		x.set(t, page, plain(page+5))
		x.check(t)
	}
	w.give(t, 1)
	x.set(t, 4095, plain(4095))
	x.check(t)
	x.set(t, 64, plain(64))
	x.check(t)
}

// An empty table that has the only frame.
func TestTB2OnlyFrame(t *testing.T) {
	x := made(t, 1, 5).begin(t)
	for _, page := range edges {
		wantError(t, "Set with none free", x.t.Set(page, plain(page)), api.ErrMemory)
		x.clear(t, page)
	}
	x.check(t)
}

// What may not be is found before a lack of frames, and takes none.
func TestTB2WrongFirst(t *testing.T) {
	for _, w := range []*world{full(t, 2, 1), made(t, 4, 4)} {
		x := w.begin(t)
		for _, page := range badPages {
			wantError(t, "Set of no page", x.t.Set(page, plain(0)), api.ErrArg)
			wantError(t, "Set of no page and no entry", x.t.Set(page, badEntries[0]), api.ErrArg)
		}
		for _, e := range badEntries {
			for _, page := range edges {
				wantError(t, "Set of no entry", x.t.Set(page, e), api.ErrArg)
			}
		}
		x.check(t)
	}
}

func TestTB2Wrong(t *testing.T) {
	x := made(t, 100, 100).begin(t)
	for page := range 4096 {
		x.set(t, page, plain(page))
	}
	for _, page := range badPages {
		x.get(t, page)
		x.clear(t, page)
		x.set(t, page, plain(1))
	}
	for _, e := range badEntries {
		for _, page := range edges {
			x.set(t, page, e)
		}
	}
	x.check(t)
}

func TestTB2Clear(t *testing.T) {
	w := made(t, 10, 10)
	x := w.begin(t)
	for _, page := range edges {
		x.clear(t, page)
	}
	x.check(t)
	wantTaken(t, w.f, 0)
	for _, page := range []int{0, 1, 63, 64, 4095} {
		x.set(t, page, plain(page))
	}
	for _, page := range []int{2, 62, 65, 4094, 128, 1, 1, 4095, 64} {
		x.clear(t, page)
		x.check(t)
	}
	wantTaken(t, w.f, 0, 1, 2, 3)
	if got := x.t.Pages(); !slices.Equal(got, []int{0, 63}) {
		t.Errorf("Pages: %v, want 0 and 63", got)
	}
}

// Get, Clear, Pages and Frames take no frame.
func TestTB2ReadingTakesNothing(t *testing.T) {
	w := made(t, 1024, 1024)
	x := w.begin(t)
	for page := range 4096 {
		x.get(t, page)
		x.clear(t, page)
	}
	x.check(t)
	wantTaken(t, w.f, 0)
}

func TestTB2PagesIsNew(t *testing.T) {
	x := made(t, 10, 10).begin(t)
	for _, page := range []int{5, 64, 4095} {
		x.set(t, page, plain(page))
	}
	first, second := x.t.Pages(), x.t.Pages()
	first = first[:cap(first)]
	for i := range first {
		first[i] = -1
	}
	if want := []int{5, 64, 4095}; !slices.Equal(second, want) {
		t.Errorf("two answers of Pages share memory: %v", second)
	}
	x.check(t)
}

func TestTB3Free(t *testing.T) {
	w := made(t, 100, 100)
	for range 3 {
		w.take(t)
	}
	x := w.begin(t)
	for _, page := range edges {
		x.set(t, page, entry.Entry{Frame: 1, Perm: 7})
	}
	x.clear(t, 0)
	x.clear(t, 2047)
	w.take(t)
	last := slices.Max(w.f.Taken())
	x.free(t)
	w.check(t)
	wantTaken(t, w.f, 0, 1, 2, last)
}

// A table without entries, and one whose entries were cleared, have frames too.
func TestTB3FreeWithoutEntries(t *testing.T) {
	w := made(t, 65, 65)
	w.begin(t).free(t)
	wantTaken(t, w.f)
	w.check(t)
	x := w.begin(t)
	for page := range 4096 {
		x.set(t, page, plain(page))
	}
	w.wantNoNew(t, api.ErrMemory)
	for page := range 4096 {
		x.clear(t, page)
	}
	x.free(t)
	wantTaken(t, w.f)
	w.check(t)
}

// Each of its frames is given back once: who took it too still has it.
func TestTB3FreeSharedFrames(t *testing.T) {
	w := made(t, 5, 5)
	x := w.begin(t)
	for _, page := range []int{0, 64, 128} {
		x.set(t, page, plain(page))
	}
	for _, n := range []int{0, 2} {
		if err := w.f.Ref(n); err != nil {
			t.Fatal(err)
		}
		w.refs[n]++
	}
	x.free(t)
	w.check(t)
	wantTaken(t, w.f, 0, 2)
}

// Frames that entries name stay as often taken as they are.
func TestTB3FreeKeepsFramesOfEntries(t *testing.T) {
	w := made(t, 6, 6)
	for range 2 {
		w.take(t)
	}
	x := w.begin(t)
	for page := range 64 {
		x.set(t, page, entry.Entry{Frame: page % 2, Perm: api.Read, Cow: true})
	}
	x.set(t, 64, entry.Entry{Frame: 5, Perm: 7})
	w.take(t)
	x.free(t)
	w.check(t)
	wantTaken(t, w.f, 0, 1, 5)
}

// What is freed twice gives nothing back again, also where others have its frames.
func TestTB3FreeTwice(t *testing.T) {
	w := made(t, 5, 5)
	x := w.begin(t)
	x.set(t, 3, plain(3))
	x.free(t)
	x.t.Free()
	wantGone(t, x.t)
	w.check(t)
	y := w.begin(t)
	y.set(t, 4, plain(4))
	y.set(t, 400, plain(400))
	for range 3 {
		x.t.Free()
		wantGone(t, x.t)
		y.check(t)
	}
}

// A table that is begun in frames of a freed one has nothing of that one.
func TestTB3FreeAndBegin(t *testing.T) {
	w := made(t, 3, 3)
	for range 20 {
		x := w.begin(t)
		x.check(t)
		x.set(t, 100, plain(100))
		x.set(t, 127, plain(127))
		x.set(t, 4095, plain(4095))
		x.check(t)
		x.free(t)
		w.check(t)
		y := w.begin(t)
		y.set(t, 99, plain(99))
		y.check(t)
		y.free(t)
		wantTaken(t, w.f)
	}
}

func TestTB3Nil(t *testing.T) {
	var x *table.Table
	wantGone(t, x)
	x.Free()
	x.Free()
	wantGone(t, x)
}

func TestTB4UntilSetAgainOrCleared(t *testing.T) {
	x := made(t, 30, 30).begin(t)
	for _, page := range edges {
		for other := range 4096 {
			if other%97 == 0 || slices.Contains(edges, other) {
				x.set(t, page, plain(page+other))
				x.get(t, page)
				x.clear(t, page)
				x.get(t, page)
				x.set(t, page, plain(other))
				x.glance(t, page, other)
			}
		}
		x.check(t)
	}
}

// Each page alone: all others stay as they are.
func TestTB4OtherPages(t *testing.T) {
	x := made(t, 65, 65).begin(t)
	for page := range 4096 {
		if page%3 == 0 {
			x.set(t, page, plain(page))
		}
	}
	for page := 0; page < 4096; page += 31 {
		x.set(t, page, plain(page+1))
		x.check(t)
		x.clear(t, page)
		x.check(t)
	}
}

// numbers are a rule of numbers that look like any.
func numbers() func(limit int) int {
	v := uint32(1)
	return func(limit int) int {
		v = v*1664525 + 1013904223
		return int(v>>16) % limit
	}
}

// step does the same, whatever it is, to a table and to what it should be.
func (m *model) step(t *testing.T, below func(limit int) int) {
	t.Helper()
	page := below(4100) - 2
	if below(2) == 0 {
		page = below(12)*64 + []int{0, 1, 62, 63}[below(4)]
	}
	if below(3) == 0 {
		m.clear(t, page)
	} else {
		m.set(t, page, entry.Entry{Frame: below(1028) - 2, Perm: uint8(below(9)), Cow: below(2) == 0})
	}
	m.get(t, page)
	m.get(t, page+1)
	m.get(t, page-64)
}

// Two tables on the same frames, of which one is freed and begun now and then, while somebody else takes frames too.
func TestTB4LongRun(t *testing.T) {
	below := numbers()
	for _, many := range []int{3, 5, 20, 80, 1024} {
		w := made(t, many, min(1024, many+many%3))
		tables := []*model{w.begin(t), w.begin(t)}
		for i := range 4000 {
			which := below(2)
			tables[which].step(t, below)
			if below(400) == 0 {
				tables[which].free(t)
				tables[which] = w.begin(t)
			}
			if below(900) == 0 && w.f.Free() > 0 {
				w.take(t)
			}
			if i%200 == 0 {
				tables[0].check(t)
				tables[1].check(t)
			}
		}
		tables[0].check(t)
		tables[1].check(t)
	}
}

// All runs of five calls with four pages of three upper parts, where three frames are too few for all of them.
func TestTB4EveryShortRun(t *testing.T) {
	const length = 5
	pages := []int{63, 64, 65, 4095}
	runs := 1
	for range length {
		runs *= 2 * len(pages)
	}
	for run := range runs {
		x := made(t, 3, 3).begin(t)
		for i := range length {
			call := run % (2 * len(pages))
			run /= 2 * len(pages)
			if page := pages[call/2]; call%2 == 0 {
				x.set(t, page, entry.Entry{Frame: i + 1, Perm: uint8(i), Cow: i == 2})
			} else {
				x.clear(t, page)
			}
		}
		x.glance(t, 0, 62, 63, 64, 65, 66, 127, 4094, 4095)
		x.w.check(t)
	}
}

// The same calls have the same answers.
func TestTB4Again(t *testing.T) {
	w := made(t, 2, 2)
	x := w.begin(t)
	x.set(t, 64, plain(7))
	for range 5 {
		x.set(t, 64, plain(7))
		x.set(t, 63, plain(7))
		x.set(t, 4096, plain(7))
		x.clear(t, 65)
		x.check(t)
		w.wantNoNew(t, api.ErrMemory)
	}
}
