package space_test

import (
	"bytes"
	"math"
	"slices"
	"testing"

	"halter/api"
	"halter/entry"
	"halter/frames"
	"halter/phys"
	"halter/region"
	"halter/space"
	"halter/word"
)

// some are so many bytes, no noughts among them.
func some(n int) []byte {
	b := make([]byte, n)
	for i := range b {
		b[i] = byte(i%200 + 1)
	}
	return b
}

// at is the address of a byte of a page.
func at(page, off int) uint32 { return uint32(page)*256 + uint32(off) }

// wantTaken holds how many frames are taken.
func (w *world) wantTaken(t *testing.T, want int) {
	t.Helper()
	if got := len(w.f.Taken()); got != want {
		t.Fatalf("%d frames are taken, want %d", got, want)
	}
}

// fill writes a byte of its own into each of some pages.
func (m *model) fill(t *testing.T, pages ...int) {
	t.Helper()
	for _, page := range pages {
		m.write(t, at(page, page%256), []byte{byte(page%250 + 1)}, true)
	}
}

// The chapter's own example.
func TestExample(t *testing.T) {
	f, err := frames.New(10)
	if err != nil {
		t.Fatal(err)
	}
	p, err := phys.New(10)
	if err != nil {
		t.Fatal(err)
	}
	s, err := space.New(f, p)
	if err != nil {
		t.Fatal(err)
	}
	if err := s.Map(api.Region{From: 1, To: 3, Perm: api.Write}); err != nil {
		t.Fatal(err)
	}
	if got := len(f.Taken()); got != 1 {
		t.Errorf("%d frames are taken after Map, want 1", got)
	}
	if err := s.Write(256, []byte("abc"), false); err != nil {
		t.Fatal(err)
	}
	if got := len(f.Taken()); got != 3 {
		t.Errorf("%d frames are taken after Write, want 3", got)
	}
	if got, want := s.Page(1), append([]byte("abc"), make([]byte, 253)...); !bytes.Equal(got, want) {
		t.Errorf("Page(1): %v, want %v", got, want)
	}
	if got := s.Pages(); !slices.Equal(got, []int{1}) {
		t.Errorf("Pages: %v, want 1", got)
	}
	if got := s.Own(); got != 2 {
		t.Errorf("Own: %d, want 2", got)
	}
}

func TestSP1New(t *testing.T) {
	for _, many := range []int{1, 2, 3, 64, 1024} {
		w := made(t, many)
		m := w.begin(t)
		w.wantTaken(t, 1)
		if got := m.s.Own(); got != 1 {
			t.Errorf("Own: %d, want 1", got)
		}
		if l := m.s.Regions(); len(l) != 0 {
			t.Errorf("Regions: %v, want none", l)
		}
		if l := m.s.Pages(); len(l) != 0 {
			t.Errorf("Pages: %v, want none", l)
		}
		for page := range 4096 {
			if _, err := m.s.Reach(page, 0); err == nil {
				t.Fatalf("page %d is there at first", page)
			}
		}
		w.check(t)
	}
}

func TestSP1NewNoneFree(t *testing.T) {
	for _, many := range []int{1, 2, 5} {
		w := made(t, many)
		w.leave(t, 0)
		w.wantNoNew(t, api.ErrMemory)
		w.leave(t, 1)
		w.begin(t)
		w.wantNoNew(t, api.ErrMemory)
		w.check(t)
	}
}

// Nothing, and memories that are too small, are ErrArg, also where no frame is free.
func TestSP1NewWrong(t *testing.T) {
	w := made(t, 4)
	smaller, err := phys.New(3)
	if err != nil {
		t.Fatal(err)
	}
	for _, free := range []int{4, 1, 0} {
		w.leave(t, free)
		same := w.same(t)
		for what, err := range map[string]error{
			"no frames":        newError(t, nil, w.m),
			"no bytes":         newError(t, w.f, nil),
			"neither":          newError(t, nil, nil),
			"a smaller memory": newError(t, w.f, smaller),
		} {
			wantError(t, what, err, api.ErrArg)
		}
		same("New")
	}
}

func newError(t *testing.T, f *frames.Frames, m *phys.Memory) error {
	t.Helper()
	s, err := space.New(f, m)
	if s != nil {
		t.Fatal("New: a memory beside an error")
	}
	return err
}

func TestSP1NewGreaterMemory(t *testing.T) {
	f, err := frames.New(3)
	if err != nil {
		t.Fatal(err)
	}
	p, err := phys.New(1024)
	if err != nil {
		t.Fatal(err)
	}
	s, err := space.New(f, p)
	if err != nil {
		t.Fatal(err)
	}
	if err := s.Map(api.Region{From: 0, To: 9, Perm: 3}); err != nil {
		t.Fatal(err)
	}
	if err := s.Write(7, some(3), false); err != nil {
		t.Fatal(err)
	}
	wantError(t, "Write", s.Write(300, some(3), false), api.ErrMemory)
}

func TestSP1Map(t *testing.T) {
	w := made(t, 1)
	m := w.begin(t)
	m.mapping(t, 4, 8, 3)
	m.mapping(t, 8, 9, 3)
	m.mapping(t, 0, 4, 1)
	m.mapping(t, 20, 30, 0)
	m.mapping(t, 10, 20, 7)
	m.mapping(t, 4095, 4096, 4)
	want := []api.Region{{From: 0, To: 4, Perm: 1}, {From: 4, To: 9, Perm: 3}, {From: 10, To: 20, Perm: 7}, {From: 20, To: 30, Perm: 0}, {From: 4095, To: 4096, Perm: 4}}
	if got := m.s.Regions(); !slices.Equal(got, want) {
		t.Errorf("Regions: %v, want %v", got, want)
	}
	// Pages take a frame only when they are accessed.
	w.wantTaken(t, 1)
	for _, r := range [][2]int{{0, 1}, {3, 5}, {8, 10}, {9, 11}, {29, 4096}, {4095, 4096}, {0, 4096}, {12, 13}, {5, 25}} {
		for _, perm := range []uint8{0, 1, 3, 7} {
			m.mapping(t, r[0], r[1], perm)
		}
	}
	m.mapping(t, 30, 4095, 4)
	m.mapping(t, 9, 10, 2)
	w.check(t)
	m = made(t, 1).begin(t)
	m.mapping(t, 0, 4096, 6)
	m.w.check(t)
	m.mapping(t, 0, 4096, 6)
}

// ErrArg comes ahead of ErrExist.
func TestSP1MapWrong(t *testing.T) {
	for _, from := range []int{0, 1, 4095} {
		m := made(t, 1).begin(t)
		m.mapping(t, from, from+1, 3)
		for _, r := range badRanges {
			for _, perm := range []uint8{0, 3, 7, 8, 255} {
				m.mapping(t, r[0], r[1], perm)
			}
		}
		for perm := 8; perm < 256; perm++ {
			m.mapping(t, 0, 4096, uint8(perm))
			m.mapping(t, 100, 200, uint8(perm))
		}
	}
}

func TestSP1Unmap(t *testing.T) {
	w := made(t, 40)
	m := w.begin(t)
	m.mapping(t, 2, 8, 3)
	m.mapping(t, 8, 12, 1)
	m.mapping(t, 60, 70, 6)
	m.mapping(t, 4090, 4096, 2)
	m.fill(t, 2, 3, 7, 8, 11, 60, 63, 64, 69, 4090, 4095)
	w.wantTaken(t, 1+3+11)
	m.unmap(t, 3, 4)
	w.wantTaken(t, 1+3+10)
	m.unmap(t, 7, 9)
	w.wantTaken(t, 1+3+8)
	want := []api.Region{{From: 2, To: 3, Perm: 3}, {From: 4, To: 7, Perm: 3}, {From: 9, To: 12, Perm: 1}, {From: 60, To: 70, Perm: 6}, {From: 4090, To: 4096, Perm: 2}}
	if got := m.s.Regions(); !slices.Equal(got, want) {
		t.Errorf("Regions: %v, want %v", got, want)
	}
	m.unmap(t, 12, 60)
	m.unmap(t, 4, 6)
	m.unmap(t, 64, 69)
	w.wantTaken(t, 1+3+7)
	if got, want := m.s.Pages(), []int{2, 11, 60, 63, 69, 4090, 4095}; !slices.Equal(got, want) {
		t.Errorf("Pages: %v, want %v", got, want)
	}
	w.check(t)
	// The table keeps its own frames.
	m.unmap(t, 0, 4096)
	w.wantTaken(t, 1+3)
	if got := m.s.Own(); got != 4 {
		t.Errorf("Own: %d, want 4", got)
	}
	w.check(t)
	for page := range 4096 {
		m.reach(t, page, 0)
	}
}

func TestSP1UnmapWrong(t *testing.T) {
	m := made(t, 9).begin(t)
	m.mapping(t, 0, 2, 3)
	m.mapping(t, 4094, 4096, 3)
	m.fill(t, 0, 1, 4094, 4095)
	for _, r := range badRanges {
		m.unmap(t, r[0], r[1])
	}
}

// A page that is unmapped and mapped again has no frame, and reads 0 when it gets one.
func TestSP1UnmapAndMapAgain(t *testing.T) {
	for _, page := range edges {
		w := made(t, 3)
		m := w.begin(t)
		m.mapping(t, page, page+1, 3)
		m.write(t, at(page, 0), some(256), false)
		m.unmap(t, page, page+1)
		m.reach(t, page, 0)
		m.mapping(t, page, page+1, 1)
		if l := m.s.Pages(); len(l) != 0 {
			t.Fatalf("Pages: %v, want none", l)
		}
		m.write(t, at(page, 0), some(1), false)
		m.read(t, at(page, 0), 256, 1)
		m.wantPage(t, page, make([]byte, 256))
		w.check(t)
	}
}

// A page that is shared and unmapped stays the other memory's.
func TestSP1UnmapShared(t *testing.T) {
	w := made(t, 8)
	m := w.begin(t)
	m.mapping(t, 5, 7, 3)
	m.write(t, at(5, 0), some(256), false)
	m.write(t, at(6, 0), some(100), false)
	child := m.fork(t)
	w.wantTaken(t, 2+2+2)
	child.unmap(t, 5, 6)
	w.wantTaken(t, 2+2+2)
	w.check(t)
	m.unmap(t, 6, 7)
	w.wantTaken(t, 2+2+2)
	w.check(t)
	child.mapping(t, 5, 6, 3)
	child.read(t, at(5, 0), 256, 1)
	m.mapping(t, 6, 7, 3)
	m.read(t, at(6, 0), 256, 1)
	w.check(t)
	m.unmap(t, 5, 6)
	w.wantTaken(t, 2+2+3)
	w.check(t)
}

func TestSP1Protect(t *testing.T) {
	w := made(t, 20)
	m := w.begin(t)
	m.mapping(t, 2, 8, 3)
	m.mapping(t, 8, 12, 1)
	m.mapping(t, 63, 65, 4)
	m.fill(t, 3, 4, 8, 64)
	m.protect(t, 4, 9, 5)
	want := []api.Region{{From: 2, To: 4, Perm: 3}, {From: 4, To: 9, Perm: 5}, {From: 9, To: 12, Perm: 1}, {From: 63, To: 65, Perm: 4}}
	if got := m.s.Regions(); !slices.Equal(got, want) {
		t.Errorf("Regions: %v, want %v", got, want)
	}
	w.check(t)
	// Neither takes a frame by that, nor gives one back.
	w.wantTaken(t, 3+4)
	for page, perm := range []uint8{2: 3, 3: 3, 4: 5, 5: 5, 6: 5, 7: 5, 8: 5, 9: 1, 10: 1, 11: 1} {
		for _, use := range []uint8{1, 2, 4} {
			m.wantUse(t, page, use, page > 1 && perm&use != 0)
		}
	}
	m.protect(t, 9, 12, 5)
	m.protect(t, 2, 4, 5)
	m.protect(t, 64, 65, 4)
	if got, want := m.s.Regions(), []api.Region{{From: 2, To: 12, Perm: 5}, {From: 63, To: 65, Perm: 4}}; !slices.Equal(got, want) {
		t.Errorf("Regions: %v, want %v", got, want)
	}
	w.check(t)
}

// wantUse holds whether a page may be used so.
func (m *model) wantUse(t *testing.T, page int, use uint8, may bool) {
	t.Helper()
	if got := m.reachable(page, use, false) == 0; got != may {
		t.Fatalf("page %d may be used for %d: %v", page, use, may)
	}
	m.reach(t, page, use)
}

func TestSP1ProtectWrong(t *testing.T) {
	for _, there := range []bool{false, true} {
		m := made(t, 9).begin(t)
		m.mapping(t, 5, 9, 3)
		if there {
			m.mapping(t, 0, 5, 3)
			m.mapping(t, 9, 4096, 3)
		}
		m.fill(t, 5, 8)
		for _, r := range badRanges {
			for _, perm := range []uint8{0, 1, 7, 8, 255} {
				m.protect(t, r[0], r[1], perm)
			}
		}
		for perm := 8; perm < 256; perm++ {
			m.protect(t, 5, 9, uint8(perm))
			m.protect(t, 4, 10, uint8(perm))
		}
	}
}

// If one of the pages is not there, no page is used in another way.
func TestSP1ProtectNoPage(t *testing.T) {
	m := made(t, 9).begin(t)
	m.mapping(t, 5, 9, 3)
	m.mapping(t, 10, 12, 3)
	m.fill(t, 5, 8, 10)
	for _, r := range [][2]int{{4, 9}, {5, 10}, {8, 11}, {5, 12}, {9, 10}, {0, 1}, {0, 4096}, {4095, 4096}, {11, 13}} {
		for _, perm := range []uint8{0, 3, 7} {
			m.protect(t, r[0], r[1], perm)
		}
	}
	for _, page := range []int{5, 8, 10} {
		m.reach(t, page, 2)
	}
}

// Behind a Protect, pages with a frame and without one are accessed by the new Perm: their bytes stay.
func TestSP1ProtectThenReach(t *testing.T) {
	for old := range uint8(8) {
		for perm := range uint8(8) {
			m := made(t, 9).begin(t)
			m.mapping(t, 62, 66, old)
			m.fill(t, 62, 64)
			m.protect(t, 62, 66, perm)
			for page := 62; page < 66; page++ {
				for use := range uint8(9) {
					m.reach(t, page, use)
				}
			}
			m.w.check(t)
		}
	}
}

// The new Perm is that of one memory, and a page that is shared stays so.
func TestSP1ProtectShared(t *testing.T) {
	for perm := range uint8(8) {
		w := made(t, 12)
		m := w.begin(t)
		m.mapping(t, 5, 7, 3)
		m.fill(t, 5, 6)
		child := m.fork(t)
		child.protect(t, 5, 6, perm)
		w.wantTaken(t, 2+2+2)
		for _, x := range []*model{m, child} {
			for page := 5; page < 7; page++ {
				for _, use := range []uint8{0, 1, 4, 3, 5, 6, 7, 8} {
					x.reach(t, page, use)
				}
			}
		}
		w.wantTaken(t, 2+2+2)
		child.write(t, at(5, 9), []byte{77}, false)
		child.write(t, at(5, 10), []byte{78}, true)
		m.read(t, at(5, 0), 256, 1)
		m.write(t, at(5, 9), []byte{79}, false)
		child.read(t, at(5, 0), 256, 0)
		w.check(t)
	}
}

// Regions do what those of layer 13 do, of one memory as of many.
func TestSP1IsLayer13(t *testing.T) {
	below := numbers()
	for range 60 {
		m := made(t, 1).begin(t)
		var l []api.Region
		for range 60 {
			from := below(20)
			to := from + below(6)
			perm := uint8(below(9))
			var err, want error
			var next []api.Region
			switch below(3) {
			case 0:
				r := api.Region{From: from, To: to, Perm: perm}
				next, want = region.Add(l, r)
				err = m.s.Map(r)
			case 1:
				next, want = region.Cut(l, from, to)
				err = m.s.Unmap(from, to)
			default:
				next, want = region.Protect(l, from, to, perm)
				err = m.s.Protect(from, to, perm)
			}
			if (err != nil) != (want != nil) || err != nil && err.Error() != want.Error() {
				t.Fatalf("from %v: error %v, want %v", l, err, want)
			}
			if want == nil {
				l = next
			}
			if got := m.s.Regions(); !slices.Equal(got, l) {
				t.Fatalf("Regions: %v, want %v", got, l)
			}
		}
	}
}

// Every use of a page by every Perm, with a frame, without one, and shared.
func TestSP2EveryUse(t *testing.T) {
	for perm := range uint8(8) {
		for use := range 256 {
			w := made(t, 16)
			m := w.begin(t)
			m.mapping(t, 5, 9, perm)
			m.write(t, at(6, 3), some(20), true)
			m.write(t, at(7, 3), some(20), true)
			child := m.fork(t)
			child.reach(t, 5, uint8(use))
			child.reach(t, 6, uint8(use))
			m.reach(t, 7, uint8(use))
			m.reach(t, 6, uint8(use))
			child.reach(t, 4, uint8(use))
			child.reach(t, 9, uint8(use))
			w.check(t)
		}
	}
}

func TestSP2Pages(t *testing.T) {
	w := made(t, 100)
	m := w.begin(t)
	m.mapping(t, 0, 4096, 7)
	for _, use := range []uint8{0, 1, 2, 4, 3, 8} {
		for _, page := range badPages {
			m.reach(t, page, use)
		}
	}
	w.wantTaken(t, 1)
	for n, page := range edges {
		m.reach(t, page, []uint8{0, 1, 2, 4}[n%4])
		m.wantPage(t, page, make([]byte, 256))
	}
	w.check(t)
	for _, page := range edges {
		for _, use := range []uint8{0, 1, 2, 4} {
			m.reach(t, page, use)
		}
	}
	for _, page := range badPages {
		m.reach(t, page, 0)
	}
	w.check(t)
}

// Each page of a memory, one more than which no frame is left for.
func TestSP2EveryPage(t *testing.T) {
	w := made(t, 1024)
	m := w.begin(t)
	m.mapping(t, 0, 4096, 2)
	for page := range 4096 {
		m.reach(t, page, 2)
		if w.free() == 0 {
			break
		}
	}
	w.check(t)
	for page := range 4096 {
		if page > 1000 && page < 1100 || page%97 == 0 {
			m.reach(t, page, 2)
		}
	}
}

func TestSP2SameFrame(t *testing.T) {
	w := made(t, 6)
	m := w.begin(t)
	m.mapping(t, 0, 3, 7)
	var frames []int
	for page := range 3 {
		frame, err := m.s.Reach(page, 1)
		if err != nil {
			t.Fatal(err)
		}
		if slices.Contains(frames, frame) {
			t.Errorf("page %d is in frame %d, as another one is", page, frame)
		}
		frames = append(frames, frame)
		for _, use := range []uint8{0, 1, 2, 4} {
			if again, err := m.s.Reach(page, use); again != frame || err != nil {
				t.Errorf("Reach(%d, %d): %d, %v, want %d", page, use, again, err, frame)
			}
		}
		// What is laid into that frame is the page's.
		if err := w.m.Write(frame, 250, some(6)); err != nil {
			t.Fatal(err)
		}
		if b, err := m.s.Read(at(page, 250), 6, 1); err != nil || !bytes.Equal(b, some(6)) {
			t.Errorf("Read: %v, %v", b, err)
		}
		// And the page's bytes lie there.
		if err := m.s.Write(at(page, 8), some(9), false); err != nil {
			t.Fatal(err)
		}
		if b, err := w.m.Read(frame, 8, 9); err != nil || !bytes.Equal(b, some(9)) {
			t.Errorf("frame %d: %v, %v", frame, b, err)
		}
	}
}

// A page that gets a frame reads 0, also where another page, or another memory, or somebody else had it before.
func TestSP2Noughts(t *testing.T) {
	for _, use := range []uint8{0, 1, 2, 4} {
		w := made(t, 4)
		m := w.begin(t)
		m.mapping(t, 0, 2, 7)
		m.reach(t, 0, use)
		m.wantPage(t, 0, make([]byte, 256))
		m.write(t, at(0, 0), some(256), false)
		m.unmap(t, 0, 1)
		m.reach(t, 1, use)
		m.wantPage(t, 1, make([]byte, 256))
		m.write(t, at(1, 0), some(256), false)
		m.free(t)
		m = w.begin(t)
		m.mapping(t, 64, 66, 7)
		m.reach(t, 64, use)
		m.wantPage(t, 64, make([]byte, 256))
		w.leave(t, 0)
		if err := w.m.Write(w.others[0], 0, some(256)); err != nil {
			t.Fatal(err)
		}
		w.leave(t, 1)
		m.reach(t, 65, use)
		m.wantPage(t, 65, make([]byte, 256))
		w.check(t)
	}
}

// How a page is reached in the three ways.
var reaches = []struct {
	what string
	call func(m *model, t *testing.T, page int)
}{
	{"Reach", func(m *model, t *testing.T, page int) { m.reach(t, page, 4) }},
	{"Read", func(m *model, t *testing.T, page int) { m.read(t, at(page, 10), 20, 1) }},
	{"Read of no bytes", func(m *model, t *testing.T, page int) { m.read(t, at(page, 0), 0, 0) }},
	{"Write", func(m *model, t *testing.T, page int) { m.write(t, at(page, 20), some(10), false) }},
	{"Write by force", func(m *model, t *testing.T, page int) { m.write(t, at(page, 20), some(10), true) }},
	{"Write of no bytes", func(m *model, t *testing.T, page int) { m.write(t, at(page, 0), nil, false) }},
}

// A page needs a frame, and its upper part one if there is none yet; else nothing is changed.
func TestSP2NoneFree(t *testing.T) {
	for _, way := range reaches {
		for _, upper := range []int{0, 1, 63} {
			for _, filled := range []bool{false, true} {
				for free := range 4 {
					w := made(t, 9)
					m := w.begin(t)
					m.mapping(t, upper*64, upper*64+3, 7)
					need := 2
					if filled {
						m.fill(t, upper*64)
						need = 1
					}
					w.leave(t, free)
					way.call(m, t, upper*64+2)
					got := slices.Contains(m.s.Pages(), upper*64+2)
					if want := free >= need; got != want {
						t.Errorf("%s, %d frames free, %d needed: the page has a frame: %v", way.what, free, need, got)
					}
					if got := w.f.Free(); free >= need && got != free-need || free < need && got != free {
						t.Errorf("%s, %d frames free, %d needed: %d are free afterwards", way.what, free, need, got)
					}
					w.check(t)
					w.leave(t, 2)
					way.call(m, t, upper*64+2)
					w.check(t)
				}
			}
		}
	}
}

// An upper part keeps its frame when its pages have none any more.
func TestSP2UpperPartStays(t *testing.T) {
	w := made(t, 4)
	m := w.begin(t)
	m.mapping(t, 64, 128, 3)
	m.fill(t, 64)
	m.unmap(t, 64, 65)
	w.leave(t, 1)
	m.reach(t, 127, 2)
	if got := m.s.Own(); got != 2 {
		t.Errorf("Own: %d, want 2", got)
	}
	w.check(t)
}

// ErrFault comes ahead of ErrMemory, and takes no frame.
func TestSP2FaultFirst(t *testing.T) {
	for _, free := range []int{0, 1, 2} {
		w := made(t, 9)
		m := w.begin(t)
		m.mapping(t, 5, 7, 5)
		m.mapping(t, 7, 8, 2)
		m.fill(t, 6)
		child := m.fork(t)
		w.leave(t, free)
		for _, x := range []*model{m, child} {
			for _, page := range []int{4, 8, -1, 4096, 4095} {
				for _, use := range []uint8{0, 1, 2, 4, 3} {
					x.reach(t, page, use)
				}
				x.write(t, at(8, 0), some(1), true)
			}
			for _, use := range []uint8{2, 3, 5, 6, 7, 8, 128, 255} {
				x.reach(t, 5, use)
				x.reach(t, 6, use)
				x.read(t, at(5, 1), 1, use)
				x.read(t, at(6, 1), 1, use)
			}
			x.reach(t, 7, 1)
			x.reach(t, 7, 4)
			x.write(t, at(5, 0), some(1), false)
			x.write(t, at(6, 0), some(1), false)
		}
		w.check(t)
	}
}

// A frame that is shared stays so until a page is reached for use 2.
func TestSP2Shared(t *testing.T) {
	for _, first := range []int{0, 1} {
		w := made(t, 12)
		m := w.begin(t)
		m.mapping(t, 5, 7, 7)
		m.write(t, at(5, 0), some(256), false)
		m.write(t, at(6, 0), some(256), false)
		pair := []*model{m, m.fork(t)}
		for _, use := range []uint8{0, 1, 4} {
			for _, x := range pair {
				x.reach(t, 5, use)
				x.read(t, at(6, 0), 256, use)
			}
		}
		w.wantTaken(t, 4+2)
		shared, err := m.s.Reach(5, 0)
		if err != nil {
			t.Fatal(err)
		}
		own, err := pair[first].s.Reach(5, 2)
		if err != nil || own == shared {
			t.Errorf("Reach for use 2: %d, %v, want another one", own, err)
		}
		if got := w.f.Refs(shared); got != 1 {
			t.Errorf("the frame is taken %d times, want 1", got)
		}
		pair[first].reached(t, "Reach", 5, 2)
		w.wantTaken(t, 4+3)
		w.check(t)
		// The other one has it alone, and writes it where it lies.
		if got, err := pair[1-first].s.Reach(5, 2); got != shared || err != nil {
			t.Errorf("Reach for use 2: %d, %v, want %d", got, err, shared)
		}
		if got, err := pair[first].s.Reach(5, 2); got != own || err != nil {
			t.Errorf("Reach for use 2: %d, %v, want %d", got, err, own)
		}
		w.wantTaken(t, 4+3)
		w.check(t)
	}
}

// No frame free for a frame of its own: nothing is changed, and the page is reached for other uses.
func TestSP2SharedNoneFree(t *testing.T) {
	for _, way := range reaches[3:] {
		w := made(t, 9)
		m := w.begin(t)
		m.mapping(t, 5, 7, 7)
		m.write(t, at(5, 0), some(256), false)
		child := m.fork(t)
		w.leave(t, 0)
		for _, x := range []*model{m, child} {
			way.call(x, t, 5)
			wantError(t, "Reach", reachError(x.s, 5, 2), api.ErrMemory)
			x.reach(t, 5, 2)
			for _, use := range []uint8{0, 1, 4} {
				x.reach(t, 5, use)
				x.read(t, at(5, 0), 256, use)
			}
		}
		w.leave(t, 1)
		way.call(child, t, 5)
		if got := w.f.Free(); got != 0 {
			t.Errorf("%s: %d frames are free, want 0", way.what, got)
		}
		way.call(m, t, 5)
		way.call(child, t, 5)
		w.check(t)
	}
}

func reachError(s *space.Space, page int, use uint8) error {
	_, err := s.Reach(page, use)
	return err
}

// What lets a frame be one memory's alone: then it is written where it lies, with no frame free.
func TestSP2NotSharedAnyMore(t *testing.T) {
	for n, leave := range []func(x *model){
		func(x *model) { x.free(t) },
		func(x *model) { x.unmap(t, 5, 6) },
		func(x *model) { x.unmap(t, 0, 4096) },
		func(x *model) { x.write(t, at(5, 0), some(1), false) },
		func(x *model) { x.write(t, at(5, 0), nil, true) },
		func(x *model) { x.reach(t, 5, 2) },
	} {
		for first := range 2 {
			w := made(t, 9)
			m := w.begin(t)
			m.mapping(t, 5, 7, 7)
			m.write(t, at(5, 0), some(256), false)
			pair := []*model{m, m.fork(t)}
			frame, err := m.s.Reach(5, 0)
			if err != nil {
				t.Fatal(err)
			}
			leave(pair[first])
			w.leave(t, 0)
			stays := pair[1-first]
			if got, err := stays.s.Reach(5, 2); got != frame || err != nil {
				t.Errorf("way %d: Reach for use 2: %d, %v, want %d", n, got, err, frame)
			}
			stays.write(t, at(5, 100), some(100), false)
			stays.write(t, at(5, 0), some(256), true)
			w.check(t)
		}
	}
}

// Of three memories that share a frame, two get frames of their own.
func TestSP2SharedByThree(t *testing.T) {
	for _, order := range [][]int{{0, 1, 2}, {0, 2, 1}, {1, 0, 2}, {1, 2, 0}, {2, 0, 1}, {2, 1, 0}} {
		w := made(t, 12)
		m := w.begin(t)
		m.mapping(t, 5, 7, 7)
		m.write(t, at(5, 0), some(256), false)
		child := m.fork(t)
		all := []*model{m, child, child.fork(t)}
		w.wantTaken(t, 6+1)
		for n, x := range order {
			w.check(t)
			all[x].write(t, at(5, 40*n), some(30+n), false)
			w.wantTaken(t, 6+min(n+2, 3))
		}
		for _, x := range order {
			all[x].write(t, at(5, 200), some(x+1), false)
			w.wantTaken(t, 6+3)
		}
		w.check(t)
	}
}

// From each offset, bytes to the end of the page, and one more.
func TestSP3Read(t *testing.T) {
	for _, page := range []int{0, 1, 63, 64, 4095} {
		w := made(t, 9)
		m := w.begin(t)
		m.mapping(t, page, min(page+2, 4096), 1)
		m.write(t, at(page, 0), some(256), true)
		for off := range 256 {
			for _, n := range []int{0, 1, 2, 255 - off, 256 - off, 257 - off, 256, 257, -1, math.MinInt, math.MaxInt, math.MaxInt - off, math.MaxInt - 255, -off, 1 << 32, 1<<32 + 1} {
				m.read(t, at(page, off), n, 1)
			}
		}
		for n := range 300 {
			m.read(t, at(page, 0), n, 0)
		}
		w.check(t)
	}
}

// Bytes that can't be are ErrFault where the page has no frame yet, and it gets none by that.
func TestSP3ReadOfNoFrame(t *testing.T) {
	w := made(t, 9)
	m := w.begin(t)
	m.mapping(t, 5, 6, 7)
	for _, off := range []int{0, 1, 2, 128, 254, 255} {
		for _, n := range []int{257 - off, 257, 1000, -1, -off - 1, math.MinInt, math.MinInt + 255, math.MaxInt, math.MaxInt - off, math.MaxInt - off + 1, math.MaxInt - 255, 1 << 32, 1<<32 + 1, -1<<32 + 1, math.MaxInt32, math.MinInt32} {
			m.read(t, at(5, off), n, 0)
			m.read(t, at(5, off), n, 1)
			m.read(t, at(6, off), n, 1)
		}
	}
	w.wantTaken(t, 1)
}

func TestSP3ReadUses(t *testing.T) {
	for perm := range uint8(8) {
		m := made(t, 9).begin(t)
		m.mapping(t, 5, 7, perm)
		m.write(t, at(5, 0), some(256), true)
		for use := range 256 {
			m.read(t, at(5, 7), 5, uint8(use))
			m.read(t, at(7, 7), 5, uint8(use))
			m.read(t, at(7, 7), 0, uint8(use))
			m.read(t, at(6, 7), 5, uint8(use))
			m.unmap(t, 6, 7)
			m.mapping(t, 6, 7, perm)
		}
		m.w.check(t)
	}
}

// Addresses behind the last page are those of no page, whatever they are modulo a power of two.
func TestSP3Beyond(t *testing.T) {
	w := made(t, 9)
	m := w.begin(t)
	m.mapping(t, 0, 4096, 7)
	m.fill(t, 0, 4095)
	for _, a := range []uint32{1 << 20, 1<<20 + 1, 1<<20 + 255, 1<<20 + 256, 1<<21 - 1, 1 << 21, 1 << 24, 1<<24 + 5, 1 << 28, 1<<31 - 1, 1 << 31, 1<<31 + 1, 1<<32 - 257, 1<<32 - 256, 1<<32 - 255, 1<<32 - 1} {
		for _, n := range []int{0, 1, 2, 256, 257, -1} {
			for _, use := range []uint8{0, 1, 2, 4} {
				m.read(t, a, n, use)
			}
			if n >= 0 {
				m.write(t, a, some(n), false)
				m.write(t, a, some(n), true)
			}
		}
	}
	m.read(t, 1<<20-1, 1, 0)
	m.read(t, 1<<20-256, 256, 0)
	m.read(t, 1<<20-1, 2, 0)
	m.write(t, 1<<20-1, some(1), false)
	m.write(t, 1<<20-1, some(2), false)
	m.write(t, 1<<20-256, some(256), false)
	m.write(t, 1<<20-256, some(257), false)
	w.check(t)
}

// Bytes do not go on in the next page, though it is there; and nothing is done for those that fit.
func TestSP3WithinAPage(t *testing.T) {
	w := made(t, 9)
	m := w.begin(t)
	m.mapping(t, 0, 4, 7)
	m.read(t, 255, 2, 1)
	m.read(t, 0, 257, 1)
	m.read(t, 1, 256, 1)
	m.write(t, 255, some(2), false)
	m.write(t, 0, some(257), true)
	m.write(t, 1, some(1000), true)
	w.wantTaken(t, 1)
	m.write(t, 255, some(1), false)
	m.write(t, 256, some(256), false)
	w.wantTaken(t, 4)
	m.write(t, 255, some(2), false)
	m.write(t, 511, some(2), true)
	w.check(t)
}

// Bytes that go beyond a page are ErrFault, also where no frame is free.
func TestSP3FaultFirst(t *testing.T) {
	w := made(t, 9)
	m := w.begin(t)
	m.mapping(t, 5, 8, 7)
	m.fill(t, 6)
	child := m.fork(t)
	w.leave(t, 0)
	for _, page := range []int{4, 5, 6} {
		for _, x := range []*model{m, child} {
			x.read(t, at(page, 0), 257, 0)
			x.read(t, at(page, 255), 2, 0)
			x.read(t, at(page, 255), -1, 0)
			x.read(t, at(page, 255), 1, 0)
			x.read(t, at(page, 255), 0, 0)
			x.write(t, at(page, 0), some(257), true)
			x.write(t, at(page, 255), some(2), false)
			x.write(t, at(page, 255), some(1), true)
			x.write(t, at(page, 255), nil, true)
		}
	}
}

// From each offset, bytes to the end of the page, and one more; the other bytes stay.
func TestSP3Write(t *testing.T) {
	for _, page := range []int{0, 1, 63, 64, 4095} {
		w := made(t, 9)
		m := w.begin(t)
		m.mapping(t, page, min(page+2, 4096), 2)
		for off := range 256 {
			for _, n := range []int{0, 1, 2, 255 - off, 256 - off, 257 - off, 256, 257, 512} {
				if n >= 0 {
					m.write(t, at(page, off), some(n), n%2 == 0)
					m.wantPage(t, page, w.bytes[m.pages[page]])
				}
			}
			m.write(t, at(page, 255-off), []byte{0}, false)
		}
		for n := range 300 {
			m.write(t, at(page, n%256), some(n), false)
		}
		w.check(t)
	}
}

// By force a page is written whatever its Perm is; by itself only where its Perm has Write.
func TestSP3Force(t *testing.T) {
	for perm := range uint8(8) {
		for _, force := range []bool{false, true} {
			for n := range 4 {
				w := made(t, 12)
				m := w.begin(t)
				m.mapping(t, 5, 7, perm)
				m.write(t, at(5, 0), some(n), force)
				m.write(t, at(5, 9), some(n), force)
				m.write(t, at(6, 0), some(50), true)
				child := m.fork(t)
				child.write(t, at(6, 10), some(n), force)
				m.write(t, at(6, 20), some(n), force)
				m.write(t, at(4, 0), some(n), force)
				m.write(t, at(7, 0), some(n), force)
				w.check(t)
				// The Perm stays what it is.
				for _, use := range []uint8{1, 2, 4} {
					child.reach(t, 6, use)
					m.reach(t, 5, use)
				}
			}
		}
	}
}

func TestSP4Fork(t *testing.T) {
	w := made(t, 30)
	m := w.begin(t)
	m.mapping(t, 5, 7, 3)
	m.mapping(t, 7, 70, 1)
	m.mapping(t, 4090, 4096, 0)
	m.fill(t, 5, 6, 10, 64, 4095)
	w.wantTaken(t, 4+5)
	child := m.fork(t)
	w.wantTaken(t, 4+5+4)
	if got, want := child.s.Regions(), m.s.Regions(); !slices.Equal(got, want) || len(want) != 3 {
		t.Errorf("Regions: %v, want %v", got, want)
	}
	if got, want := child.s.Pages(), []int{5, 6, 10, 64, 4095}; !slices.Equal(got, want) {
		t.Errorf("Pages: %v, want %v", got, want)
	}
	for _, page := range child.s.Pages() {
		frame, err := m.s.Reach(page, 0)
		if err != nil {
			t.Fatal(err)
		}
		if got, err := child.s.Reach(page, 0); got != frame || err != nil {
			t.Errorf("Reach(%d): %d, %v, want %d", page, got, err, frame)
		}
		if got := w.f.Refs(frame); got != 2 {
			t.Errorf("frame %d is taken %d times, want 2", frame, got)
		}
	}
	w.check(t)
	// From then on, each has regions and pages of its own.
	child.mapping(t, 0, 5, 3)
	m.unmap(t, 5, 7)
	child.protect(t, 4090, 4096, 6)
	m.fill(t, 7, 63)
	child.fill(t, 0, 4094)
	w.check(t)
}

func TestSP4ForkOfNothing(t *testing.T) {
	w := made(t, 3)
	m := w.begin(t)
	child := m.fork(t)
	w.wantTaken(t, 2)
	child.mapping(t, 0, 4096, 7)
	grandchild := child.fork(t)
	w.wantTaken(t, 3)
	w.check(t)
	m.fork(t)
	child.fork(t)
	grandchild.free(t)
	child.free(t)
	m.free(t)
	w.wantTaken(t, 0)
}

// A fork's table has frames for the upper parts that its pages need; its first memory's may have more.
func TestSP4ForkOwn(t *testing.T) {
	w := made(t, 40)
	m := w.begin(t)
	m.mapping(t, 0, 4096, 3)
	m.fill(t, 0, 63, 64, 127, 128, 4032, 4095)
	m.unmap(t, 64, 128)
	child := m.fork(t)
	if m.s.Own() != 5 || child.s.Own() != 4 {
		t.Errorf("Own: %d and %d, want 5 and 4", m.s.Own(), child.s.Own())
	}
	w.check(t)
}

// Fork at each number of free frames: none is taken if there are too few.
func TestSP4ForkNoneFree(t *testing.T) {
	for _, pages := range [][]int{{}, {0}, {0, 63}, {63, 64}, {0, 64, 128}, {5, 70, 71, 4095}, {0, 1, 2, 3, 4, 5}, {1, 65, 129, 193, 257, 4000}} {
		uppers := map[int]bool{}
		for _, page := range pages {
			uppers[page/64] = true
		}
		need := 1 + len(uppers)
		for free := range need + 3 {
			w := made(t, 30)
			m := w.begin(t)
			m.mapping(t, 0, 4096, 3)
			m.fill(t, pages...)
			w.leave(t, free)
			child := m.fork(t)
			if (child != nil) != (free >= need) {
				t.Errorf("pages %v, %d frames free: a memory: %v", pages, free, child != nil)
			}
			if want := free - need; want >= 0 && w.f.Free() != want {
				t.Errorf("pages %v, %d frames free: %d are free afterwards, want %d", pages, free, w.f.Free(), want)
			}
			w.check(t)
			// What is not shared is written where it lies.
			w.leave(t, 0)
			m.fill(t, pages...)
			w.check(t)
		}
	}
}

// Of hundreds of pages in many upper parts, each is shared.
func TestSP4ForkOfManyPages(t *testing.T) {
	for _, step := range []int{1, 7, 63, 64, 65} {
		w := made(t, 1024)
		m := w.begin(t)
		m.mapping(t, 0, 4096, 3)
		for page := 4095; page >= 0 && w.free() > 500; page -= step {
			m.fill(t, page)
		}
		child := m.fork(t)
		w.check(t)
		for n, page := range m.s.Pages() {
			if n%3 == 0 {
				m.write(t, at(page, 0), some(3), false)
			} else if n%3 == 1 {
				child.write(t, at(page, 0), some(4), false)
			}
		}
		w.check(t)
		m.free(t)
		w.check(t)
		child.free(t)
		w.wantTaken(t, 0)
	}
}

// The pages of an upper part that have no frame any more need none in a fork.
func TestSP4ForkWithFewerUpperParts(t *testing.T) {
	w := made(t, 30)
	m := w.begin(t)
	m.mapping(t, 0, 4096, 3)
	m.fill(t, 0, 64, 128, 4095)
	m.unmap(t, 0, 1)
	m.unmap(t, 128, 4096)
	w.leave(t, 2)
	child := m.fork(t)
	if child == nil || child.s.Own() != 2 {
		t.Fatal("no Fork, or with other frames")
	}
	w.check(t)
}

// Free gives all back, in whichever order memories are freed, forks before or behind what they come of.
func TestSP4FreeInEachOrder(t *testing.T) {
	for code := range 4 * 4 * 4 * 4 {
		order := []int{code % 4, code / 4 % 4, code / 16 % 4, code / 64}
		if sorted := slices.Sorted(slices.Values(order)); !slices.Equal(sorted, []int{0, 1, 2, 3}) {
			continue
		}
		w := made(t, 40)
		m := w.begin(t)
		m.mapping(t, 0, 200, 3)
		m.fill(t, 0, 64, 65, 130)
		child := m.fork(t)
		child.fill(t, 64, 131)
		other := m.fork(t)
		grandchild := child.fork(t)
		grandchild.fill(t, 0, 131)
		all := []*model{m, child, other, grandchild}
		for _, n := range order {
			all[n].free(t)
			w.check(t)
		}
		w.wantTaken(t, 0)
	}
}

func TestSP4FreeTwice(t *testing.T) {
	w := made(t, 9)
	m, other := w.begin(t), w.begin(t)
	m.mapping(t, 5, 6, 3)
	m.fill(t, 5)
	child := m.fork(t)
	m.free(t)
	// Somebody else has its frames now.
	other.mapping(t, 0, 2, 3)
	other.fill(t, 0)
	m.s.Free()
	w.wantGone(t, m.s)
	child.fill(t, 5)
	w.check(t)
	child.free(t)
	other.free(t)
	w.wantTaken(t, 0)
	w.wantGone(t, m.s)
	w.wantGone(t, child.s)
}

func TestSP4FreeWithoutPages(t *testing.T) {
	w := made(t, 2)
	m := w.begin(t)
	m.free(t)
	w.wantTaken(t, 0)
	m = w.begin(t)
	m.mapping(t, 0, 4096, 3)
	m.free(t)
	w.wantTaken(t, 0)
	w.begin(t)
	w.check(t)
}

func TestSP4Nil(t *testing.T) {
	w := made(t, 3)
	m := w.begin(t)
	m.mapping(t, 0, 1, 3)
	var s *space.Space
	w.wantGone(t, s)
	w.wantGone(t, &space.Space{})
}

func TestSP4Pages(t *testing.T) {
	w := made(t, 60)
	m := w.begin(t)
	m.mapping(t, 0, 4096, 0)
	order := slices.Clone(edges)
	slices.Reverse(order)
	m.fill(t, order...)
	if got := m.s.Pages(); !slices.Equal(got, edges) {
		t.Errorf("Pages: %v, want %v", got, edges)
	}
	for page := range 4096 {
		want := []byte(nil)
		if slices.Contains(edges, page) {
			want = make([]byte, 256)
			want[page%256] = byte(page%250 + 1)
		}
		m.wantPage(t, page, want)
	}
	for _, page := range badPages {
		m.wantPage(t, page, nil)
	}
	w.check(t)
}

// Looking gives no page a frame, and makes no shared page one's own.
func TestSP4LookingTakesNothing(t *testing.T) {
	w := made(t, 9)
	m := w.begin(t)
	m.mapping(t, 0, 4096, 7)
	m.fill(t, 3)
	child := m.fork(t)
	same := w.same(t)
	for _, x := range []*model{m, child} {
		for page := range 4096 {
			x.s.Page(page)
		}
		x.s.Pages()
		x.s.Own()
		x.s.Regions()
		x.reach(t, 3, 0)
		x.read(t, at(3, 0), 256, 4)
	}
	same("looking")
}

// least is the least frame that is free.
func (w *world) least() int {
	frame := 0
	for w.f.Refs(frame) > 0 {
		frame++
	}
	return frame
}

// entryAt is the entry at a place of a table's frame.
func (w *world) entryAt(t *testing.T, frame, place int) entry.Entry {
	t.Helper()
	b, err := w.m.Read(frame, 4*place, 4)
	if err != nil {
		t.Fatal(err)
	}
	v, err := word.Load(b)
	if err != nil {
		t.Fatal(err)
	}
	e, ok, err := entry.Decode(v)
	if err != nil || !ok {
		t.Fatalf("frame %d, place %d: %v, %v, want an entry", frame, place, ok, err)
	}
	return e
}

// wantEntry holds a page's entry, as it lies in the frames of a table whose first one is known.
func (m *model) wantEntry(t *testing.T, first, page int, perm uint8, cow bool) {
	t.Helper()
	upper := m.w.entryAt(t, first, page/64)
	want := entry.Entry{Frame: m.pages[page], Perm: perm, Cow: cow}
	if got := m.w.entryAt(t, upper.Frame, page%64); got != want {
		t.Fatalf("page %d: %+v, want %+v", page, got, want)
	}
}

// The tables tell what layer 6 says: a page's frame, its Perm, and whether it is shared until it is written.
func TestSP4Entries(t *testing.T) {
	w := made(t, 20)
	first := w.least()
	m := w.begin(t)
	m.mapping(t, 70, 75, 3)
	m.fill(t, 70, 71, 72)
	m.protect(t, 71, 72, 5)
	m.wantEntry(t, first, 70, 3, false)
	m.wantEntry(t, first, 71, 5, false)
	second := w.least()
	child := m.fork(t)
	child.protect(t, 72, 73, 1)
	m.wantEntry(t, first, 70, 3, true)
	m.wantEntry(t, first, 71, 5, true)
	m.wantEntry(t, first, 72, 3, true)
	child.wantEntry(t, second, 70, 3, true)
	child.wantEntry(t, second, 71, 5, true)
	child.wantEntry(t, second, 72, 1, true)
	child.read(t, at(70, 0), 256, 1)
	child.write(t, at(71, 7), some(5), true)
	child.wantEntry(t, second, 70, 3, true)
	child.wantEntry(t, second, 71, 5, false)
	m.wantEntry(t, first, 71, 5, true)
	m.write(t, at(71, 7), some(6), true)
	m.wantEntry(t, first, 71, 5, false)
}

// Whoever writes, before a Fork or behind it, no other memory sees it.
func TestSP5NoOtherSees(t *testing.T) {
	for writer := range 4 {
		for _, force := range []bool{false, true} {
			w := made(t, 60)
			m, stranger := w.begin(t), w.begin(t)
			m.mapping(t, 60, 70, 7)
			stranger.mapping(t, 60, 70, 7)
			m.write(t, at(62, 0), some(256), force)
			m.write(t, at(64, 10), some(6), force)
			stranger.write(t, at(62, 5), some(50), force)
			child := m.fork(t)
			child.write(t, at(66, 0), some(9), force)
			all := []*model{m, child, child.fork(t), stranger}
			for n, page := range []int{62, 63, 64, 65, 66, 67, 62, 63, 64, 65, 66, 67} {
				all[writer].write(t, at(page, n), some(n+1), force)
				w.check(t)
			}
			for n, x := range all {
				for page := 60; page < 70; page++ {
					x.write(t, at(page, 100), []byte{byte(n + 1)}, force)
				}
			}
			w.check(t)
			for _, x := range all {
				for page := 60; page < 70; page++ {
					x.read(t, at(page, 0), 256, 1)
				}
			}
		}
	}
}

// Of an own frame that was shared, and is shared again.
func TestSP5ForkAgain(t *testing.T) {
	w := made(t, 40)
	m := w.begin(t)
	m.mapping(t, 5, 6, 3)
	m.fill(t, 5)
	for n := range 8 {
		child := m.fork(t)
		child.write(t, at(5, 2*n), some(1), false)
		m.write(t, at(5, 2*n+1), some(1), false)
		w.check(t)
		grandchild := child.fork(t)
		child.free(t)
		m.read(t, at(5, 0), 256, 1)
		grandchild.write(t, at(5, 200), some(n), false)
		w.check(t)
	}
}

// A frame is shared by as many as there are frames for their tables.
func TestSP5ManyForks(t *testing.T) {
	w := made(t, 200)
	m := w.begin(t)
	m.mapping(t, 5, 6, 3)
	m.write(t, at(5, 0), some(256), false)
	all := []*model{m}
	for {
		x := all[len(all)/2].fork(t)
		if x == nil {
			break
		}
		all = append(all, x)
	}
	if got := len(all); got != 99 {
		t.Errorf("%d memories, want 99", got)
	}
	w.check(t)
	all[50].write(t, at(5, 7), some(1), false)
	all[51].write(t, at(5, 7), some(1), false)
	for len(all) > 1 {
		all[0].free(t)
		all = all[1:]
	}
	all[0].write(t, at(5, 7), some(1), false)
	w.wantTaken(t, 3)
	w.check(t)
}

// numbers answers numbers below a limit, the same ones each time.
func numbers() func(limit int) int {
	x := uint64(88172645463325252)
	return func(limit int) int {
		x ^= x << 13
		x ^= x >> 7
		x ^= x << 17
		return int(x >> 11 % uint64(limit))
	}
}
