package frames_test

import (
	"errors"
	"fmt"
	"math"
	"slices"
	"testing"

	"halter/api"
	"halter/frames"
)

// sizes are numbers of frames with which everything is tried.
var sizes = []int{1, 2, 3, 7, 64, 1023, 1024}

// strangers are numbers of frames that there are not, if there are so many; most are one modulo a power of two.
func strangers(many int) []int {
	return []int{
		math.MinInt, math.MinInt + 1, -1 << 32, math.MinInt32, -1025, -1024, -many - 1, -many, -2, -1,
		many, many + 1, 2 * many, 1024, 1025, 1 << 16, math.MaxInt32, 1 << 31, 1 << 32, 1<<32 + 1, math.MaxInt - 1, math.MaxInt,
	}
}

func wantError(t *testing.T, what string, err error, want api.Errno) {
	t.Helper()
	var no api.Errno
	if !errors.As(err, &no) || no != want {
		t.Errorf("%s: error %v, want %v", what, err, want)
	}
}

// made is so many frames.
func made(t *testing.T, many int) *frames.Frames {
	t.Helper()
	f, err := frames.New(many)
	if err != nil || f == nil {
		t.Fatalf("New(%d): %v, %v", many, f, err)
	}
	return f
}

// full is so many frames, each taken once.
func full(t *testing.T, many int) *frames.Frames {
	t.Helper()
	f := made(t, many)
	for n := range many {
		wantAlloc(t, f, n)
	}
	return f
}

func wantAlloc(t *testing.T, f *frames.Frames, want int) {
	t.Helper()
	if n, err := f.Alloc(); n != want || err != nil {
		t.Fatalf("Alloc: %d, %v, want %d", n, err, want)
	}
}

func wantNoAlloc(t *testing.T, f *frames.Frames) {
	t.Helper()
	n, err := f.Alloc()
	wantError(t, "Alloc with none free", err, api.ErrMemory)
	if n != 0 {
		t.Errorf("Alloc: %d beside an error", n)
	}
}

func wantRef(t *testing.T, f *frames.Frames, n int) {
	t.Helper()
	if err := f.Ref(n); err != nil {
		t.Fatalf("Ref(%d): %v", n, err)
	}
}

func wantNoRef(t *testing.T, f *frames.Frames, n int) {
	t.Helper()
	wantError(t, fmt.Sprintf("Ref(%d)", n), f.Ref(n), api.ErrArg)
}

func wantUnref(t *testing.T, f *frames.Frames, n int, want bool) {
	t.Helper()
	if free, err := f.Unref(n); free != want || err != nil {
		t.Fatalf("Unref(%d): %v, %v, want %v", n, free, err, want)
	}
}

func wantNoUnref(t *testing.T, f *frames.Frames, n int) {
	t.Helper()
	free, err := f.Unref(n)
	wantError(t, fmt.Sprintf("Unref(%d)", n), err, api.ErrArg)
	if free {
		t.Errorf("Unref(%d): true beside an error", n)
	}
}

// wantState holds all that f tells against how often each frame should be taken.
func wantState(t *testing.T, f *frames.Frames, refs []int) {
	t.Helper()
	var taken []int
	for n, want := range refs {
		if want > 0 {
			taken = append(taken, n)
		}
		if got := f.Refs(n); got != want {
			t.Fatalf("Refs(%d): %d, want %d", n, got, want)
		}
	}
	if got := f.Taken(); !slices.Equal(got, taken) {
		t.Fatalf("Taken: %v, want %v", got, taken)
	}
	if got, want := f.Free(), len(refs)-len(taken); got != want {
		t.Fatalf("Free: %d, want %d", got, want)
	}
}

func TestFR1New(t *testing.T) {
	for many := 1; many <= api.MaxFrames; many++ {
		wantState(t, made(t, many), make([]int, many))
	}
	for _, many := range []int{math.MinInt, -1<<32 + 1, math.MinInt32, -1024, -2, -1, 0, 1025, 1026, 2048, 1<<16 + 1, math.MaxInt32, 1<<32 + 1, 1<<32 + 1024, math.MaxInt} {
		f, err := frames.New(many)
		wantError(t, fmt.Sprintf("New(%d)", many), err, api.ErrArg)
		if f != nil {
			t.Errorf("New(%d): frames beside an error", many)
		}
	}
}

func TestFR1AllocAscends(t *testing.T) {
	for _, many := range sizes {
		f, refs := made(t, many), make([]int, many)
		for n := range many {
			wantAlloc(t, f, n)
			refs[n] = 1
			wantState(t, f, refs)
		}
	}
}

func TestFR1AllocNoneFree(t *testing.T) {
	for _, many := range sizes {
		f, refs := full(t, many), slices.Repeat([]int{1}, many)
		for range 3 {
			wantNoAlloc(t, f)
			wantState(t, f, refs)
		}
		wantUnref(t, f, many-1, true)
		wantAlloc(t, f, many-1)
		wantNoAlloc(t, f)
		wantState(t, f, refs)
	}
}

func TestFR1AllocTakesTheLeast(t *testing.T) {
	f := full(t, 8)
	for _, n := range []int{6, 2, 4} {
		wantUnref(t, f, n, true)
	}
	wantState(t, f, []int{1, 1, 0, 1, 0, 1, 0, 1})
	wantAlloc(t, f, 2)
	wantUnref(t, f, 0, true)
	wantAlloc(t, f, 0)
	wantAlloc(t, f, 4)
	wantUnref(t, f, 3, true)
	wantAlloc(t, f, 3)
	wantAlloc(t, f, 6)
	wantNoAlloc(t, f)

	few := made(t, 8)
	for n := range 3 {
		wantAlloc(t, few, n)
	}
	wantUnref(t, few, 1, true)
	wantAlloc(t, few, 1)
	wantAlloc(t, few, 3)
	wantState(t, few, []int{1, 1, 1, 1, 0, 0, 0, 0})
}

// What is given back once of a frame that is taken twice does not make it free.
func TestFR1AllocPassesSharedFrames(t *testing.T) {
	f := full(t, 3)
	wantRef(t, f, 1)
	wantUnref(t, f, 1, false)
	wantNoAlloc(t, f)
	wantUnref(t, f, 2, true)
	wantAlloc(t, f, 2)
	wantUnref(t, f, 1, true)
	wantAlloc(t, f, 1)
	wantState(t, f, []int{1, 1, 1})
}

func TestFR1RefAndUnref(t *testing.T) {
	for _, many := range sizes {
		for _, n := range []int{0, many / 2, many - 1} {
			f, refs := full(t, many), slices.Repeat([]int{1}, many)
			for range 40 {
				wantRef(t, f, n)
				refs[n]++
				wantState(t, f, refs)
			}
			for refs[n] > 0 {
				refs[n]--
				wantUnref(t, f, n, refs[n] == 0)
				wantState(t, f, refs)
			}
			wantNoUnref(t, f, n)
			wantNoRef(t, f, n)
			wantState(t, f, refs)
			wantAlloc(t, f, n)
			refs[n] = 1
			wantState(t, f, refs)
		}
	}
}

func TestFR1FreeFrames(t *testing.T) {
	for _, many := range sizes {
		f := made(t, many)
		for n := range many {
			wantNoRef(t, f, n)
			wantNoUnref(t, f, n)
		}
		wantState(t, f, make([]int, many))
	}
	f := made(t, 3)
	wantAlloc(t, f, 0)
	for _, n := range []int{1, 2} {
		wantNoRef(t, f, n)
		wantNoUnref(t, f, n)
	}
	wantState(t, f, []int{1, 0, 0})
}

func TestFR1NoSuchFrame(t *testing.T) {
	for _, many := range sizes {
		empty, taken := made(t, many), full(t, many)
		for _, f := range []*frames.Frames{empty, taken} {
			for _, n := range strangers(many) {
				if n >= 0 && n < many {
					continue
				}
				wantNoRef(t, f, n)
				wantNoUnref(t, f, n)
				if got := f.Refs(n); got != 0 {
					t.Errorf("Refs(%d) of %d frames: %d, want 0", n, many, got)
				}
			}
		}
		wantState(t, empty, make([]int, many))
		wantState(t, taken, slices.Repeat([]int{1}, many))
	}
}

// A frame can be taken 2^30 times, and not once more.
func TestFR1RefLimit(t *testing.T) {
	const most = 1 << 30
	f := full(t, 2)
	for i := 1; i < most; i++ {
		if f.Ref(0) != nil {
			t.Fatalf("Ref of a frame that is taken %d times", i)
		}
	}
	for range 2 {
		wantState(t, f, []int{most, 1})
		wantNoRef(t, f, 0)
	}
	wantRef(t, f, 1)
	wantUnref(t, f, 0, false)
	wantState(t, f, []int{most - 1, 2})
	wantRef(t, f, 0)
	wantNoRef(t, f, 0)
	wantState(t, f, []int{most, 2})
}

func TestFR1Nil(t *testing.T) {
	var f *frames.Frames
	n, err := f.Alloc()
	wantError(t, "Alloc", err, api.ErrArg)
	if n != 0 {
		t.Errorf("Alloc: %d beside an error", n)
	}
	for _, n := range []int{math.MinInt, -1, 0, 1, 1023, 1024, math.MaxInt} {
		wantNoRef(t, f, n)
		wantNoUnref(t, f, n)
		if got := f.Refs(n); got != 0 {
			t.Errorf("Refs(%d): %d, want 0", n, got)
		}
	}
	if got := f.Free(); got != 0 {
		t.Errorf("Free: %d, want 0", got)
	}
	if got := f.Taken(); len(got) != 0 {
		t.Errorf("Taken: %v, want none", got)
	}
}

func TestFR1TakenIsNew(t *testing.T) {
	f := full(t, 5)
	wantUnref(t, f, 1, true)
	first, second := f.Taken(), f.Taken()
	first = first[:cap(first)]
	for i := range first {
		first[i] = -1
	}
	if want := []int{0, 2, 3, 4}; !slices.Equal(second, want) {
		t.Errorf("two answers of Taken share memory: %v", second)
	}
	wantState(t, f, []int{1, 0, 1, 1, 1})
}

// What is done to one Frames is not seen in another one.
func TestFR1Apart(t *testing.T) {
	one, other := made(t, 3), made(t, 3)
	wantAlloc(t, one, 0)
	wantRef(t, one, 0)
	wantAlloc(t, one, 1)
	wantState(t, other, []int{0, 0, 0})
	wantAlloc(t, other, 0)
	wantState(t, one, []int{2, 1, 0})
}

// model does what the chapter says, frame by frame.
type model struct{ refs []int }

func (m *model) least() int {
	for n, refs := range m.refs {
		if refs == 0 {
			return n
		}
	}
	return -1
}

// step does the same to the frames and to the model; what and n are any numbers.
func (m *model) step(t *testing.T, f *frames.Frames, what, n int) {
	t.Helper()
	taken := n >= 0 && n < len(m.refs) && m.refs[n] > 0
	switch least := m.least(); {
	case what == 0 && least < 0:
		wantNoAlloc(t, f)
	case what == 0:
		wantAlloc(t, f, least)
		m.refs[least] = 1
	case what == 1 && !taken:
		wantNoRef(t, f, n)
	case what == 1:
		wantRef(t, f, n)
		m.refs[n]++
	case !taken:
		wantNoUnref(t, f, n)
	default:
		m.refs[n]--
		wantUnref(t, f, n, m.refs[n] == 0)
	}
}

func TestFR2LongRun(t *testing.T) {
	v := uint32(1)
	below := func(limit int) int {
		v = v*1664525 + 1013904223
		return int(v>>16) % limit
	}
	for _, many := range []int{1, 2, 3, 7, 20, 1024} {
		f, m := made(t, many), model{refs: make([]int, many)}
		for range 6000 {
			m.step(t, f, below(4), below(many+2)-1)
			wantState(t, f, m.refs)
		}
	}
}

// All runs of seven calls with two frames.
func TestFR2EveryShortRun(t *testing.T) {
	const calls, length = 7, 7 // Alloc; Ref and Unref of frames 0, 1 and 2
	runs := 1
	for range length {
		runs *= calls
	}
	for run := range runs {
		f, m := made(t, 2), model{refs: make([]int, 2)}
		for range length {
			call := run % calls
			run /= calls
			m.step(t, f, (call+2)/3, (call+2)%3)
		}
		wantState(t, f, m.refs)
	}
}

func TestFR2AllFrames(t *testing.T) {
	for _, many := range sizes {
		f := full(t, many)
		for n := 0; n < many; n += 3 {
			wantUnref(t, f, n, true)
		}
		taken := f.Taken()
		if got := f.Free() + len(taken); got != many {
			t.Errorf("%d frames are free or taken, want %d", got, many)
		}
		for n := range many {
			if isTaken := slices.Contains(taken, n); isTaken != (f.Refs(n) > 0) || isTaken == (n%3 == 0) {
				t.Errorf("frame %d of %d: taken %v, refs %d", n, many, isTaken, f.Refs(n))
			}
		}
	}
}

// A frame that was given back as often as it was taken is free, and only then.
func TestFR2GivenBackAsOften(t *testing.T) {
	for times := 1; times <= 50; times++ {
		f := full(t, 4)
		for range times - 1 {
			wantRef(t, f, 2)
		}
		for left := times - 1; left >= 0; left-- {
			wantNoAlloc(t, f)
			wantUnref(t, f, 2, left == 0)
		}
		wantState(t, f, []int{1, 1, 0, 1})
		wantAlloc(t, f, 2)
	}
}
