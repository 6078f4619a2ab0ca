package copyio_test

import (
	"bytes"
	"errors"
	"math"
	"reflect"
	"slices"
	"testing"

	"halter/api"
	"halter/copyio"
	"halter/frames"
	"halter/phys"
	"halter/space"
)

// end is the first address beyond the last page.
const end = 4096 * 256

// badSizes are no numbers of bytes; many of them are one modulo a power of two.
var badSizes = []int{
	math.MinInt, math.MinInt + 5, -1<<32 + 5, -1 << 32, math.MinInt32, -65536, -4097, -4096, -256, -2, -1,
	4097, 4098, 4352, 8192, 65536, 65541, math.MaxInt32, 1 << 32, 1<<32 + 5, math.MaxInt - 1, math.MaxInt,
}

// beyond are addresses that are in no page.
var beyond = []uint32{end, end + 1, end + 255, end + 256, end + 4095, 2 * end, 1 << 24, 1 << 31, 1<<31 + 300, math.MaxUint32 - 4096, math.MaxUint32 - 256, math.MaxUint32 - 255, math.MaxUint32 - 3, math.MaxUint32}

// at is the address of a byte of a page.
func at(page, off int) uint32 { return uint32(page)*256 + uint32(off) }

// mark is what fill lays at an address: no nought, and not what any byte nearby has.
func mark(at uint32) byte { return byte((at*7+at/256*13)%251 + 1) }

func marks(at uint32, n int) []byte {
	b := make([]byte, n)
	for i := range b {
		b[i] = mark(at + uint32(i))
	}
	return b
}

// some are so many bytes, no noughts among them, and not those that fill lays.
func some(n int) []byte {
	b := make([]byte, n)
	for i := range b {
		b[i] = byte(i%199 + 3)
	}
	return b
}

func wantError(t *testing.T, what string, err error, want api.Errno) {
	t.Helper()
	var no api.Errno
	if !errors.As(err, &no) || no != want {
		t.Fatalf("%s: error %v, want %v", what, err, want)
	}
}

// wantAnswer holds an error against the one that is wanted; 0: none is.
func wantAnswer(t *testing.T, what string, err error, want api.Errno) {
	t.Helper()
	if want != 0 {
		wantError(t, what, err, want)
	} else if err != nil {
		t.Fatalf("%s: error %v, want none", what, err)
	}
}

// machine is frames, their bytes, and memories.
type machine struct {
	f    *frames.Frames
	m    *phys.Memory
	many int
	s    *space.Space
	more []*space.Space
}

// made is a machine of so many frames, with a memory of those regions.
func made(t *testing.T, many int, regions ...api.Region) *machine {
	t.Helper()
	f, err := frames.New(many)
	if err != nil {
		t.Fatalf("frames.New(%d): %v", many, err)
	}
	m, err := phys.New(many)
	if err != nil {
		t.Fatalf("phys.New(%d): %v", many, err)
	}
	s, err := space.New(f, m)
	if err != nil {
		t.Fatalf("space.New: %v", err)
	}
	for _, r := range regions {
		if err := s.Map(r); err != nil {
			t.Fatalf("Map(%v): %v", r, err)
		}
	}
	return &machine{f: f, m: m, many: many, s: s}
}

// fill gives pages frames, and bytes of their own.
func (k *machine) fill(t *testing.T, from, to int) *machine {
	t.Helper()
	for page := from; page < to; page++ {
		if err := k.s.Write(at(page, 0), marks(at(page, 0), 256), true); err != nil {
			t.Fatalf("Write of page %d: %v", page, err)
		}
	}
	return k
}

// leave takes frames till so many are free.
func (k *machine) leave(t *testing.T, free int) *machine {
	t.Helper()
	for k.f.Free() > free {
		if _, err := k.f.Alloc(); err != nil {
			t.Fatalf("Alloc: %v", err)
		}
	}
	return k
}

// fork is a fork of the memory.
func (k *machine) fork(t *testing.T) *space.Space {
	t.Helper()
	s, err := k.s.Fork()
	if err != nil {
		t.Fatalf("Fork: %v", err)
	}
	k.more = append(k.more, s)
	return s
}

// look is all that is to be seen of a memory.
type look struct {
	regions []api.Region
	pages   []int
	bytes   [][]byte
	own     int
}

func see(s *space.Space) look {
	l := look{regions: append([]api.Region{}, s.Regions()...), pages: append([]int{}, s.Pages()...), own: s.Own()}
	for _, page := range l.pages {
		l.bytes = append(l.bytes, s.Page(page))
	}
	return l
}

// state is all that is to be seen of a machine, the free frames too.
type state struct {
	refs   []int
	bytes  [][]byte
	spaces []look
}

func (k *machine) state(t *testing.T) state {
	t.Helper()
	var s state
	for frame := range k.many {
		b, err := k.m.Read(frame, 0, 256)
		if err != nil {
			t.Fatalf("phys.Read: %v", err)
		}
		s.refs, s.bytes = append(s.refs, k.f.Refs(frame)), append(s.bytes, b)
	}
	for _, m := range append([]*space.Space{k.s}, k.more...) {
		s.spaces = append(s.spaces, see(m))
	}
	return s
}

// same answers a function that holds that nothing has changed since.
func (k *machine) same(t *testing.T) func(what string) {
	t.Helper()
	before := k.state(t)
	return func(what string) {
		t.Helper()
		if after := k.state(t); !reflect.DeepEqual(after, before) {
			t.Fatalf("%s: the machine is %v, want %v", what, after, before)
		}
	}
}

// wantPages holds which pages have frames.
func (k *machine) wantPages(t *testing.T, what string, want ...int) {
	t.Helper()
	if got := k.s.Pages(); !slices.Equal(got, want) {
		t.Fatalf("%s: pages %v have frames, want %v", what, got, want)
	}
}

// wantBytes holds what the bytes of pages are, from a page on.
func (k *machine) wantBytes(t *testing.T, what string, page int, want []byte) {
	t.Helper()
	for ; len(want) > 0; page, want = page+1, want[256:] {
		if got := k.s.Page(page); !bytes.Equal(got, want[:256]) {
			t.Fatalf("%s: page %d is %v, want %v", what, page, got, want[:256])
		}
	}
}

// upTo are the numbers from one on, up to another one.
func upTo(from, to int) []int {
	var l []int
	for n := from; n < to; n++ {
		l = append(l, n)
	}
	return l
}

// wantIn, wantOut .. hold a call's answer; an error is 0 where none is wanted.
func wantIn(t *testing.T, what string, s *space.Space, at uint32, n int, want []byte, no api.Errno) {
	t.Helper()
	got, err := copyio.In(s, at, n)
	wantAnswer(t, what, err, no)
	if !bytes.Equal(got, want) {
		t.Fatalf("%s: %v, want %v", what, got, want)
	}
}

func wantOut(t *testing.T, what string, s *space.Space, at uint32, b []byte, want int, no api.Errno) {
	t.Helper()
	given := slices.Clone(b)
	got, err := copyio.Out(s, at, given)
	wantAnswer(t, what, err, no)
	if got != want {
		t.Fatalf("%s: %d, want %d", what, got, want)
	}
	if !bytes.Equal(given, b) {
		t.Fatalf("%s: the bytes that were given are changed to %v", what, given)
	}
}

func wantText(t *testing.T, what string, s *space.Space, at uint32, most int, want string, no api.Errno) {
	t.Helper()
	got, err := copyio.Text(s, at, most)
	wantAnswer(t, what, err, no)
	if got != want {
		t.Fatalf("%s: %q, want %q", what, got, want)
	}
}

func wantPeek(t *testing.T, what string, s *space.Space, at uint32, want uint32, no api.Errno) {
	t.Helper()
	got, err := copyio.Peek(s, at)
	wantAnswer(t, what, err, no)
	if got != want {
		t.Fatalf("%s: %#x, want %#x", what, got, want)
	}
}

func wantPoke(t *testing.T, what string, s *space.Space, at uint32, v uint32, no api.Errno) {
	t.Helper()
	wantAnswer(t, what, copyio.Poke(s, at, v), no)
}

// slow is a memory that is accessed as the chapter says, a byte after the other; 64 bits, so that no address wraps round.
type slow struct{ s *space.Space }

func (m slow) read(a uint64) (byte, api.Errno) {
	if m.s == nil || m.s.Own() == 0 {
		return 0, api.ErrArg
	}
	if a >= end {
		return 0, api.ErrFault
	}
	b, err := m.s.Read(uint32(a), 1, 1)
	if err != nil {
		return 0, err.(api.Errno)
	}
	return b[0], 0
}

func (m slow) write(a uint64, v byte) api.Errno {
	if m.s == nil || m.s.Own() == 0 {
		return api.ErrArg
	}
	if a >= end {
		return api.ErrFault
	}
	if err := m.s.Write(uint32(a), []byte{v}, false); err != nil {
		return err.(api.Errno)
	}
	return 0
}

func (m slow) in(at uint32, n int) ([]byte, api.Errno) {
	if n < 0 || n > 4096 {
		return nil, 22
	}
	var all []byte
	for i := range n {
		b, no := m.read(uint64(at) + uint64(i))
		if no != 0 {
			return nil, no
		}
		all = append(all, b)
	}
	return all, 0
}

func (m slow) out(at uint32, b []byte) (int, api.Errno) {
	if len(b) > 4096 {
		return 0, 22
	}
	for i, v := range b {
		if no := m.write(uint64(at)+uint64(i), v); no != 0 {
			return i, no
		}
	}
	return len(b), 0
}

func (m slow) text(at uint32, most int) (string, api.Errno) {
	if most < 0 || most > 4096 {
		return "", 22
	}
	s := ""
	for i := range most + 1 {
		b, no := m.read(uint64(at) + uint64(i))
		switch {
		case no != 0:
			return "", no
		case b == 0:
			return s, 0
		}
		s += string([]byte{b})
	}
	return "", 36
}

func (m slow) peek(at uint32) (uint32, api.Errno) {
	switch {
	case at%4 != 0:
		return 0, 5
	case m.s == nil || m.s.Own() == 0:
		return 0, 22
	case at >= end:
		return 0, 5
	}
	b, err := m.s.Read(at, 4, 0)
	switch {
	case err != nil && err.(api.Errno) == api.ErrFault:
		return 0, 5
	case err != nil:
		return 0, err.(api.Errno)
	}
	return uint32(b[0]) + uint32(b[1])*256 + uint32(b[2])*65536 + uint32(b[3])*16777216, 0
}

func (m slow) poke(at, v uint32) api.Errno {
	switch {
	case at%4 != 0:
		return 5
	case m.s == nil || m.s.Own() == 0:
		return 22
	case at >= end:
		return 5
	}
	err := m.s.Write(at, []byte{byte(v), byte(v / 256), byte(v / 65536), byte(v / 16777216)}, true)
	switch {
	case err != nil && err.(api.Errno) == api.ErrFault:
		return 5
	case err != nil:
		return err.(api.Errno)
	}
	return 0
}
