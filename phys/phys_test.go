package phys_test

import (
	"bytes"
	"errors"
	"fmt"
	"math"
	"slices"
	"testing"

	"halter/api"
	"halter/phys"
)

// sizes are numbers of frames with which everything is tried.
var sizes = []int{1, 2, 3, 7, 64, 1023, 1024}

// strangers are numbers that are never within so many frames; many of them are so modulo a power of two.
func strangers(many int) []int {
	l := []int{
		math.MinInt, math.MinInt + 1, -1 << 32, math.MinInt32, -1025, -1024, -256, -many - 1, -many, -2, -1,
		many, many + 1, 2 * many, 256, 1023, 1024, 1025, 1 << 16, math.MaxInt32, 1 << 31, 1 << 32, 1<<32 + 1, math.MaxInt - 1, math.MaxInt,
	}
	return slices.DeleteFunc(l, func(n int) bool { return n >= 0 && n < many })
}

// outside are offsets and numbers of bytes; each pair of which one is one of these is outside a frame.
var outside = []int{
	math.MinInt, math.MinInt + 1, math.MinInt + 256, -1<<32 + 1, -1 << 32, math.MinInt32, -257, -256, -255, -2, -1,
	257, 258, 511, 512, 1 << 16, math.MaxInt32, 1 << 31, 1 << 32, 1<<32 + 1, math.MaxInt - 256, math.MaxInt - 255, math.MaxInt - 1, math.MaxInt,
}

func wantError(t *testing.T, what string, err error, want api.Errno) {
	t.Helper()
	var no api.Errno
	if !errors.As(err, &no) || no != want {
		t.Fatalf("%s: error %v, want %v", what, err, want)
	}
}

// made is so many frames.
func made(t *testing.T, many int) *phys.Memory {
	t.Helper()
	m, err := phys.New(many)
	if err != nil || m == nil {
		t.Fatalf("New(%d): %v, %v", many, m, err)
	}
	return m
}

// mark is the byte that filled lays at a place; no two frames have the same ones.
func mark(frame, off int) byte { return byte(off*7 + frame*31 + frame>>8*5 + off*frame>>3 + 1) }

// marks are all bytes that filled lays into a frame.
func marks(frame int) []byte {
	b := make([]byte, api.Page)
	for off := range b {
		b[off] = mark(frame, off)
	}
	return b
}

// filled is so many frames with bytes by which they are told apart, and what they hold.
func filled(t *testing.T, many int) (*phys.Memory, [][]byte) {
	t.Helper()
	m, want := made(t, many), make([][]byte, many)
	for frame := range many {
		want[frame] = marks(frame)
		wantWrite(t, m, frame, 0, want[frame])
	}
	return m, want
}

func wantWrite(t *testing.T, m *phys.Memory, frame, off int, b []byte) {
	t.Helper()
	if err := m.Write(frame, off, b); err != nil {
		t.Fatalf("Write(%d, %d, %d bytes): %v", frame, off, len(b), err)
	}
}

func wantNoWrite(t *testing.T, m *phys.Memory, frame, off int, b []byte, want api.Errno) {
	t.Helper()
	wantError(t, fmt.Sprintf("Write(%d, %d, %d bytes)", frame, off, len(b)), m.Write(frame, off, b), want)
}

func wantRead(t *testing.T, m *phys.Memory, frame, off, n int, want []byte) {
	t.Helper()
	if b, err := m.Read(frame, off, n); err != nil || !bytes.Equal(b, want) {
		t.Fatalf("Read(%d, %d, %d): %v, %v, want %v", frame, off, n, b, err, want)
	}
}

func wantNoRead(t *testing.T, m *phys.Memory, frame, off, n int, want api.Errno) {
	t.Helper()
	what := fmt.Sprintf("Read(%d, %d, %d)", frame, off, n)
	b, err := m.Read(frame, off, n)
	wantError(t, what, err, want)
	if len(b) != 0 {
		t.Fatalf("%s: %d bytes beside an error", what, len(b))
	}
}

func wantZero(t *testing.T, m *phys.Memory, frame int) {
	t.Helper()
	if err := m.Zero(frame); err != nil {
		t.Fatalf("Zero(%d): %v", frame, err)
	}
}

func wantNoZero(t *testing.T, m *phys.Memory, frame int) {
	t.Helper()
	wantError(t, fmt.Sprintf("Zero(%d)", frame), m.Zero(frame), api.ErrArg)
}

func wantCopy(t *testing.T, m *phys.Memory, to, from int) {
	t.Helper()
	if err := m.Copy(to, from); err != nil {
		t.Fatalf("Copy(%d, %d): %v", to, from, err)
	}
}

func wantNoCopy(t *testing.T, m *phys.Memory, to, from int) {
	t.Helper()
	wantError(t, fmt.Sprintf("Copy(%d, %d)", to, from), m.Copy(to, from), api.ErrArg)
}

// wantState holds all bytes of all frames against what they should be.
func wantState(t *testing.T, m *phys.Memory, want [][]byte) {
	t.Helper()
	if got := m.Many(); got != len(want) {
		t.Fatalf("Many: %d, want %d", got, len(want))
	}
	for frame, b := range want {
		wantRead(t, m, frame, 0, api.Page, b)
	}
}

// noughts are so many frames of noughts.
func noughts(many int) [][]byte {
	l := make([][]byte, many)
	for frame := range l {
		l[frame] = make([]byte, api.Page)
	}
	return l
}

func TestPM1New(t *testing.T) {
	for many := 1; many <= api.MaxFrames; many++ {
		m := made(t, many)
		if got := m.Many(); got != many {
			t.Fatalf("Many: %d, want %d", got, many)
		}
		for _, frame := range []int{0, many / 2, many - 1} {
			wantRead(t, m, frame, 0, api.Page, make([]byte, api.Page))
		}
		wantNoRead(t, m, many, 0, 0, api.ErrArg)
	}
	for _, many := range sizes {
		wantState(t, made(t, many), noughts(many))
	}
}

func TestPM1NewWrong(t *testing.T) {
	for _, many := range []int{math.MinInt, -1<<32 + 1, math.MinInt32, -1024, -2, -1, 0, 1025, 1026, 2048, 1<<16 + 1, math.MaxInt32, 1<<32 + 1, 1<<32 + 1024, math.MaxInt} {
		m, err := phys.New(many)
		wantError(t, fmt.Sprintf("New(%d)", many), err, api.ErrArg)
		if m != nil {
			t.Errorf("New(%d): a memory beside an error", many)
		}
	}
}

// Many stays, whatever is done to the memory.
func TestPM1Many(t *testing.T) {
	for _, many := range sizes {
		m, _ := filled(t, many)
		wantNoWrite(t, m, many, 0, []byte{1}, api.ErrArg)
		wantZero(t, m, 0)
		wantCopy(t, m, many-1, 0)
		if got := m.Many(); got != many {
			t.Errorf("Many: %d, want %d", got, many)
		}
	}
}

// Every offset with every number of bytes, also those that go beyond the frame.
func TestPM1ReadEverywhere(t *testing.T) {
	m, want := filled(t, 3)
	for off := -2; off <= api.Page+2; off++ {
		for n := -2; n <= api.Page+2; n++ {
			if off < 0 || n < 0 || off+n > api.Page {
				wantNoRead(t, m, 1, off, n, api.ErrFault)
			} else {
				wantRead(t, m, 1, off, n, want[1][off:off+n])
			}
		}
	}
	wantState(t, m, want)
}

func TestPM1WriteEverywhere(t *testing.T) {
	m, want := filled(t, 3)
	for off := -2; off <= api.Page+2; off++ {
		for n := range api.Page + 3 {
			b := bytes.Repeat([]byte{byte(off + n)}, n)
			if off < 0 || off+n > api.Page {
				wantNoWrite(t, m, 1, off, b, api.ErrFault)
			} else {
				wantWrite(t, m, 1, off, b)
				copy(want[1][off:], b)
			}
			wantRead(t, m, 1, 0, api.Page, want[1])
		}
	}
	wantState(t, m, want)
}

// The first and the last byte of the first and the last frame.
func TestPM1Corners(t *testing.T) {
	for _, many := range sizes {
		m, want := filled(t, many)
		for _, frame := range []int{0, many - 1} {
			for _, off := range []int{0, 255} {
				want[frame][off] ^= 255
				wantWrite(t, m, frame, off, want[frame][off:off+1])
				wantState(t, m, want)
				wantRead(t, m, frame, off, 1, want[frame][off:off+1])
			}
			wantWrite(t, m, frame, 256, nil)
			wantRead(t, m, frame, 256, 0, nil)
			wantRead(t, m, frame, 0, 0, nil)
			wantNoWrite(t, m, frame, 256, []byte{1}, api.ErrFault)
			wantNoRead(t, m, frame, 256, 1, api.ErrFault)
			wantNoRead(t, m, frame, 255, 2, api.ErrFault)
			wantNoRead(t, m, frame, 1, 256, api.ErrFault)
			wantNoRead(t, m, frame, 0, 257, api.ErrFault)
		}
		wantState(t, m, want)
	}
}

// A frame's end is the end, also if another frame follows.
func TestPM1Fault(t *testing.T) {
	for _, many := range []int{1, 2, 1024} {
		m, want := filled(t, many)
		for _, bad := range outside {
			for _, other := range append(slices.Clone(outside), 0, 1, 128, 255, 256) {
				wantNoRead(t, m, 0, bad, other, api.ErrFault)
				wantNoRead(t, m, 0, other, bad, api.ErrFault)
			}
			for _, n := range []int{0, 1, 2, 255, 256, 257, 512} {
				wantNoWrite(t, m, 0, bad, make([]byte, n), api.ErrFault)
			}
		}
		for _, n := range []int{257, 258, 512, 1 << 16} {
			wantNoWrite(t, m, 0, 0, make([]byte, n), api.ErrFault)
		}
		wantState(t, m, want)
	}
}

func TestPM1NoSuchFrame(t *testing.T) {
	for _, many := range sizes {
		m, want := filled(t, many)
		for _, frame := range strangers(many) {
			for _, n := range []int{0, 1, 256} {
				wantNoRead(t, m, frame, 0, n, api.ErrArg)
				wantNoWrite(t, m, frame, 0, make([]byte, n), api.ErrArg)
			}
			wantNoRead(t, m, frame, 256, 0, api.ErrArg)
			wantNoZero(t, m, frame)
			wantNoCopy(t, m, frame, 0)
			wantNoCopy(t, m, 0, frame)
			wantNoCopy(t, m, many-1, frame)
			wantNoCopy(t, m, frame, many-1)
			wantNoCopy(t, m, frame, frame)
			wantNoCopy(t, m, frame, -1)
			wantNoCopy(t, m, many, frame)
		}
		wantState(t, m, want)
	}
}

// Where there is no such frame, it does not matter that the offset is wrong, too.
func TestPM1ErrArgIsFirst(t *testing.T) {
	for _, many := range []int{1, 2, 1024} {
		m, want := filled(t, many)
		for _, frame := range strangers(many) {
			for _, bad := range outside {
				wantNoRead(t, m, frame, bad, 1, api.ErrArg)
				wantNoRead(t, m, frame, 0, bad, api.ErrArg)
				wantNoRead(t, m, frame, bad, bad, api.ErrArg)
				wantNoWrite(t, m, frame, bad, nil, api.ErrArg)
				wantNoWrite(t, m, frame, bad, []byte{1}, api.ErrArg)
			}
			wantNoWrite(t, m, frame, 0, make([]byte, 257), api.ErrArg)
			wantNoRead(t, m, frame, 128, 129, api.ErrArg)
		}
		wantState(t, m, want)
	}
}

func TestPM1Zero(t *testing.T) {
	for _, many := range sizes {
		for _, frame := range []int{0, many / 2, many - 1} {
			m, want := filled(t, many)
			want[frame] = make([]byte, api.Page)
			for range 2 {
				wantZero(t, m, frame)
				wantState(t, m, want)
			}
			want[frame][255] = 9
			wantWrite(t, m, frame, 255, []byte{9})
			wantState(t, m, want)
		}
	}
}

func TestPM1Copy(t *testing.T) {
	for _, many := range sizes {
		for _, to := range []int{0, many / 2, many - 1} {
			for _, from := range []int{0, many / 3, many - 1} {
				m, want := filled(t, many)
				wantCopy(t, m, to, from)
				want[to] = marks(from)
				wantState(t, m, want)
			}
		}
	}
}

// A frame that is copied to itself stays.
func TestPM1CopyToItself(t *testing.T) {
	for _, many := range []int{1, 2, 64} {
		m, want := filled(t, many)
		for frame := range many {
			wantCopy(t, m, frame, frame)
		}
		wantState(t, m, want)
	}
}

// What is done to a frame after it was copied is not seen in the other one.
func TestPM1CopyIsApart(t *testing.T) {
	m, want := filled(t, 3)
	wantCopy(t, m, 2, 0)
	wantWrite(t, m, 0, 10, []byte{1, 2, 3})
	wantWrite(t, m, 2, 200, []byte{4, 5})
	want[2] = marks(0)
	copy(want[0][10:], []byte{1, 2, 3})
	copy(want[2][200:], []byte{4, 5})
	wantState(t, m, want)
	wantZero(t, m, 0)
	want[0] = make([]byte, api.Page)
	wantState(t, m, want)
}

func TestPM1Nil(t *testing.T) {
	var m *phys.Memory
	if got := m.Many(); got != 0 {
		t.Errorf("Many: %d, want 0", got)
	}
	for _, frame := range append(strangers(1), 0, 1) {
		for _, off := range append(slices.Clone(outside), 0, 1, 255, 256) {
			wantNoRead(t, m, frame, off, 0, api.ErrArg)
			wantNoRead(t, m, frame, off, 1, api.ErrArg)
			wantNoRead(t, m, frame, 0, off, api.ErrArg)
			wantNoWrite(t, m, frame, off, nil, api.ErrArg)
			wantNoWrite(t, m, frame, off, []byte{1}, api.ErrArg)
		}
		wantNoWrite(t, m, frame, 0, make([]byte, 257), api.ErrArg)
		wantNoZero(t, m, frame)
		wantNoCopy(t, m, frame, 0)
		wantNoCopy(t, m, 0, frame)
		wantNoCopy(t, m, frame, frame)
	}
}

// A nil slice is no bytes, as an empty one is.
func TestPM1WriteNothing(t *testing.T) {
	m, want := filled(t, 2)
	for off := range api.Page + 1 {
		wantWrite(t, m, 1, off, nil)
		wantWrite(t, m, 1, off, []byte{})
	}
	wantNoWrite(t, m, 1, 257, nil, api.ErrFault)
	wantNoWrite(t, m, 1, -1, []byte{}, api.ErrFault)
	wantState(t, m, want)
}

// spoil changes bytes, also those that the slice has to spare.
func spoil(b []byte) {
	b = b[:cap(b)]
	for i := range b {
		b[i] ^= 255
	}
}

func TestPM1AnswersAreNew(t *testing.T) {
	for _, place := range [][2]int{{0, 256}, {0, 1}, {255, 1}, {100, 50}, {0, 0}, {128, 0}, {256, 0}} {
		off, n := place[0], place[1]
		m, want := filled(t, 3)
		for frame := range 3 {
			first, err := m.Read(frame, off, n)
			if err != nil {
				t.Fatal(err)
			}
			second, err := m.Read(frame, off, n)
			if err != nil {
				t.Fatal(err)
			}
			spoil(first)
			if !bytes.Equal(second, want[frame][off:off+n]) {
				t.Errorf("two answers of Read(%d, %d, %d) share memory", frame, off, n)
			}
			spoil(second)
			wantState(t, m, want)
		}
	}
}

// What was read stays what it was when it was read.
func TestPM1AnswersStay(t *testing.T) {
	m, want := filled(t, 3)
	b, err := m.Read(1, 0, api.Page)
	if err != nil {
		t.Fatal(err)
	}
	wantWrite(t, m, 1, 0, []byte("other bytes"))
	wantCopy(t, m, 1, 2)
	wantZero(t, m, 1)
	if !bytes.Equal(b, want[1]) {
		t.Error("bytes that were read change with the frame")
	}
}

func TestPM1ArgumentsAreNotKept(t *testing.T) {
	for _, place := range [][2]int{{0, 256}, {0, 1}, {255, 1}, {100, 50}, {256, 0}} {
		off, n := place[0], place[1]
		m, want := filled(t, 3)
		whole := bytes.Repeat([]byte{77}, 300)
		b := whole[20 : 20+n]
		wantWrite(t, m, 1, off, b)
		copy(want[1][off:], b)
		if !bytes.Equal(whole, bytes.Repeat([]byte{77}, 300)) {
			t.Errorf("Write at %d changes the %d bytes that it is given", off, n)
		}
		spoil(whole)
		wantState(t, m, want)
		wantZero(t, m, 1)
		if !bytes.Equal(whole, bytes.Repeat([]byte{77 ^ 255}, 300)) {
			t.Errorf("Zero changes the %d bytes that were written at %d", n, off)
		}
	}
}

// What is done to one memory is not seen in another one.
func TestPM1Apart(t *testing.T) {
	one, want := filled(t, 3)
	other := made(t, 3)
	wantState(t, other, noughts(3))
	wantWrite(t, other, 1, 5, []byte{1})
	wantState(t, one, want)
	wantZero(t, one, 1)
	wantRead(t, other, 1, 5, 1, []byte{1})
}

// model does what the chapter says, byte by byte, in a map of what is not 0.
type model struct {
	many  int
	bytes map[[2]int]byte
}

func (s *model) has(frame int) bool { return frame >= 0 && frame < s.many }

// state is what each frame holds.
func (s *model) state() [][]byte {
	l := noughts(s.many)
	for place, b := range s.bytes {
		l[place[0]][place[1]] = b
	}
	return l
}

func (s *model) write(t *testing.T, m *phys.Memory, frame, off int, b []byte) {
	t.Helper()
	switch {
	case !s.has(frame):
		wantNoWrite(t, m, frame, off, b, api.ErrArg)
	case off < 0 || off+len(b) > 256:
		wantNoWrite(t, m, frame, off, b, api.ErrFault)
	default:
		wantWrite(t, m, frame, off, b)
		for i, v := range b {
			s.bytes[[2]int{frame, off + i}] = v
		}
	}
}

func (s *model) read(t *testing.T, m *phys.Memory, frame, off, n int) {
	t.Helper()
	switch {
	case !s.has(frame):
		wantNoRead(t, m, frame, off, n, api.ErrArg)
	case off < 0 || n < 0 || off+n > 256:
		wantNoRead(t, m, frame, off, n, api.ErrFault)
	default:
		var want []byte
		for i := range n {
			want = append(want, s.bytes[[2]int{frame, off + i}])
		}
		wantRead(t, m, frame, off, n, want)
	}
}

func (s *model) zero(t *testing.T, m *phys.Memory, frame int) {
	t.Helper()
	if !s.has(frame) {
		wantNoZero(t, m, frame)
		return
	}
	wantZero(t, m, frame)
	for off := range 256 {
		s.bytes[[2]int{frame, off}] = 0
	}
}

func (s *model) copy(t *testing.T, m *phys.Memory, to, from int) {
	t.Helper()
	if !s.has(to) || !s.has(from) {
		wantNoCopy(t, m, to, from)
		return
	}
	wantCopy(t, m, to, from)
	for off := range 256 {
		s.bytes[[2]int{to, off}] = s.bytes[[2]int{from, off}]
	}
}

// Bytes that were written are read until they are written again, and other bytes stay, over long runs.
func TestPM2LongRun(t *testing.T) {
	v := uint32(1)
	below := func(limit int) int {
		v = v*1664525 + 1013904223
		return int(v>>16) % limit
	}
	for _, many := range []int{1, 2, 3, 5} {
		m, s := made(t, many), &model{many: many, bytes: map[[2]int]byte{}}
		for range 3000 {
			frame, other := below(many+2)-1, below(many+2)-1
			off, n := below(264)-3, below(264)
			switch below(8) {
			case 0:
				s.zero(t, m, frame)
			case 1, 2:
				s.copy(t, m, frame, other)
			case 3:
				s.read(t, m, frame, off, n-3)
			default:
				if below(2) == 0 {
					n = below(9)
				}
				b := make([]byte, n)
				for i := range b {
					b[i] = byte(below(256))
				}
				s.write(t, m, frame, off, b)
			}
			wantState(t, m, s.state())
		}
	}
}

// Each byte takes each value, and its neighbours stay.
func TestPM2EveryByte(t *testing.T) {
	m, want := filled(t, 2)
	for off := range api.Page {
		for value := range 256 {
			want[1][off] = byte(value)
			wantWrite(t, m, 1, off, want[1][off:off+1])
			wantRead(t, m, 1, 0, api.Page, want[1])
		}
	}
	wantState(t, m, want)
}

// All frames of the greatest memory are apart.
func TestPM2AllFrames(t *testing.T) {
	m, want := filled(t, api.MaxFrames)
	wantState(t, m, want)
	for frame := 0; frame < api.MaxFrames; frame += 2 {
		wantCopy(t, m, frame, frame+1)
		want[frame] = want[frame+1]
	}
	wantState(t, m, want)
	for frame := 1; frame < api.MaxFrames; frame += 2 {
		wantZero(t, m, frame)
		want[frame] = make([]byte, api.Page)
	}
	wantState(t, m, want)
}

// The same calls have the same answers.
func TestPM2Again(t *testing.T) {
	m, want := filled(t, 2)
	for range 5 {
		wantRead(t, m, 0, 3, 7, want[0][3:10])
		wantNoRead(t, m, 0, 250, 7, api.ErrFault)
		wantNoRead(t, m, 2, 0, 7, api.ErrArg)
	}
	wantState(t, m, want)
}
