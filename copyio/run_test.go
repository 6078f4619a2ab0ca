package copyio_test

import (
	"bytes"
	"fmt"
	"reflect"
	"slices"
	"testing"

	"halter/api"
	"halter/space"
)

// twin is two machines that are alike: the calls go to the memory of one, and a slow memory does the same in the other one.
type twin struct{ fast, slow *machine }

func (w twin) fastly(n int) *space.Space { return memory(w.fast, n) }
func (w twin) slowly(n int) slow         { return slow{memory(w.slow, n)} }

// memory is one of a machine's.
func memory(k *machine, n int) *space.Space {
	return slices.Concat([]*space.Space{k.s}, k.more)[n%(1+len(k.more))]
}

// alike holds that the machines still are.
func (w twin) alike(t *testing.T, what string) {
	t.Helper()
	if got, want := w.fast.state(t), w.slow.state(t); !reflect.DeepEqual(got, want) {
		t.Fatalf("%s: the machine is %v, want %v", what, got, want)
	}
}

func (w twin) in(t *testing.T, which int, at uint32, n int) {
	t.Helper()
	want, no := w.slowly(which).in(at, n)
	wantIn(t, fmt.Sprintf("In(%d, %d)", at, n), w.fastly(which), at, n, want, no)
}

func (w twin) out(t *testing.T, which int, at uint32, b []byte) {
	t.Helper()
	want, no := w.slowly(which).out(at, b)
	wantOut(t, fmt.Sprintf("Out(%d, %d bytes)", at, len(b)), w.fastly(which), at, b, want, no)
}

func (w twin) text(t *testing.T, which int, at uint32, most int) {
	t.Helper()
	want, no := w.slowly(which).text(at, most)
	wantText(t, fmt.Sprintf("Text(%d, %d)", at, most), w.fastly(which), at, most, want, no)
}

func (w twin) peek(t *testing.T, which int, at uint32) {
	t.Helper()
	want, no := w.slowly(which).peek(at)
	wantPeek(t, fmt.Sprintf("Peek(%d)", at), w.fastly(which), at, want, no)
}

func (w twin) poke(t *testing.T, which int, at, v uint32) {
	t.Helper()
	wantPoke(t, fmt.Sprintf("Poke(%d, %#x)", at, v), w.fastly(which), at, v, w.slowly(which).poke(at, v))
}

// each does something to both machines.
func (w twin) each(do func(k *machine)) {
	do(w.fast)
	do(w.slow)
}

// kinds are what a page may be: in no region, of some Perm, with a frame or without.
var kinds = []struct {
	perm uint8
	full bool
}{{8, false}, {0, false}, {1, false}, {2, false}, {3, false}, {4, true}, {1, true}, {2, true}, {3, true}}

// three is a machine with three pages of such kinds, from 63 on, and so many frames free.
func three(t *testing.T, number, free int) *machine {
	t.Helper()
	k := made(t, 12)
	for page := 63; page < 66; page++ {
		kind := kinds[number%len(kinds)]
		number /= len(kinds)
		if kind.perm > 7 {
			continue
		}
		if err := k.s.Map(api.Region{From: page, To: page + 1, Perm: kind.perm}); err != nil {
			t.Fatal(err)
		}
		if kind.full {
			k.fill(t, page, page+1)
		}
	}
	return k.leave(t, free)
}

// Each call over three pages of every kind, with 0 to 5 frames free.
func TestEveryThreePages(t *testing.T) {
	calls := []func(t *testing.T, w twin){
		func(t *testing.T, w twin) { w.in(t, 0, at(63, 255), 258) },
		func(t *testing.T, w twin) { w.in(t, 0, at(63, 0), 768) },
		func(t *testing.T, w twin) { w.in(t, 0, at(64, 7), 505) },
		func(t *testing.T, w twin) { w.out(t, 0, at(63, 255), some(258)) },
		func(t *testing.T, w twin) { w.out(t, 0, at(63, 3), make([]byte, 600)) },
		func(t *testing.T, w twin) { w.text(t, 0, at(63, 255), 257) },
		func(t *testing.T, w twin) { w.text(t, 0, at(64, 254), 2) },
		func(t *testing.T, w twin) { w.text(t, 0, at(64, 254), 1) },
		func(t *testing.T, w twin) { w.peek(t, 0, at(64, 0)) },
		func(t *testing.T, w twin) { w.poke(t, 0, at(64, 252), 0x11223344) },
		func(t *testing.T, w twin) { w.poke(t, 0, at(64, 253), 0x11223344) },
	}
	for free := range 6 {
		t.Run(fmt.Sprint(free), func(t *testing.T) {
			t.Parallel()
			for number := range len(kinds) * len(kinds) * len(kinds) {
				for _, call := range calls {
					w := twin{three(t, number, free), three(t, number, free)}
					call(t, w)
					w.alike(t, fmt.Sprintf("pages of kinds %d", number))
				}
			}
		})
	}
}

// Each byte of two pages as the first one, with numbers of bytes about the ends of the pages.
func TestEveryOffset(t *testing.T) {
	for off := range 512 {
		k := made(t, 12, api.Region{From: 2, To: 4, Perm: 3}, api.Region{From: 4, To: 5, Perm: 2}, api.Region{From: 5, To: 6, Perm: 1}).fill(t, 2, 6)
		left := 512 - off
		for _, n := range []int{1, 2, left - 257, left - 256, left - 255, left - 1, left, left + 1} {
			if n < 1 {
				continue
			}
			if n <= left {
				wantIn(t, "In", k.s, at(2, off), n, marks(at(2, off), n), 0)
				wantText(t, "Text", k.s, at(2, off), n-1, "", 36)
			} else {
				wantIn(t, "In", k.s, at(2, off), n, nil, 14)
				wantText(t, "Text", k.s, at(2, off), n-1, "", 14)
			}
			wantOut(t, "Out", k.s, at(2, off), marks(at(2, off), n), n, 0)
		}
		wantOut(t, "Out", k.s, at(2, off), marks(at(2, off), left+257), left+256, 14)
		if off%4 != 0 {
			wantPeek(t, "Peek", k.s, at(2, off), 0, 5)
			wantPoke(t, "Poke", k.s, at(2, off), 7, 5)
		}
		k.wantBytes(t, "Out of the same bytes", 2, marks(at(2, 0), 1024))
	}
}

// numbers are numbers below a limit, always the same ones.
func numbers(seed uint64) func(limit int) int {
	return func(limit int) int {
		seed ^= seed << 13
		seed ^= seed >> 7
		seed ^= seed << 17
		return int(seed % uint64(limit))
	}
}

// place is an address, mostly near the ends of pages that there are.
func place(below func(limit int) int) uint32 {
	switch below(12) {
	case 0:
		return beyond[below(len(beyond))] + uint32(below(3)) - 1
	case 1:
		return uint32(below(end))
	case 2:
		return at(4095, below(256))
	}
	return at(below(80), []int{0, 1, 3, 4, 8, 252, 254, 255, below(256)}[below(9)])
}

// length is a number of bytes, seldom a wrong one.
func length(below func(limit int) int) int {
	switch below(10) {
	case 0:
		return badSizes[below(len(badSizes))]
	case 1:
		return 4096 - below(3)
	case 2:
		return below(4097)
	}
	return below(600)
}

// words are some bytes, with a nought now and then.
func words(n int, below func(limit int) int) []byte {
	b := make([]byte, n)
	for i := range b {
		b[i] = byte(below(256))
		if b[i] == 0 && below(3) > 0 {
			b[i] = 1
		}
	}
	return b
}

// step does something, whatever it is, to both machines.
func (w twin) step(t *testing.T, below func(limit int) int) {
	t.Helper()
	which, a, n := below(4), place(below), length(below)
	switch below(8) {
	case 0, 1:
		w.in(t, which, a, n)
	case 2, 3:
		w.out(t, which, a, words(min(max(n, 0), 5000), below))
	case 4:
		w.text(t, which, a, n)
	case 5:
		w.peek(t, which, a-uint32(below(2)))
	case 6:
		w.poke(t, which, a&^3, uint32(below(1<<32)))
	default:
		w.turn(t, below)
	}
}

// turn changes what there is: regions, frames that somebody else has, and memories.
func (w twin) turn(t *testing.T, below func(limit int) int) {
	t.Helper()
	what, which, page, to, perm, free := below(7), below(4), below(80), below(20), uint8(below(8)), below(30)
	w.each(func(k *machine) {
		s := memory(k, which)
		switch what {
		case 0, 1:
			s.Map(api.Region{From: page, To: page + to, Perm: perm | 3})
		case 2:
			s.Unmap(page, page+1+to/4)
		case 3:
			s.Protect(page, page+1+to/9, perm)
		case 4:
			if len(k.more) < 3 {
				if child, err := s.Fork(); err == nil {
					k.more = append(k.more, child)
				}
			}
		case 5:
			if len(k.more) > 0 {
				k.more[0].Free()
				k.more = k.more[1:]
			}
		default:
			for k.f.Free() > free {
				k.f.Alloc()
			}
		}
	})
}

// Long runs over few frames and many, with memories that are forked and freed now and then.
func TestCI4LongRun(t *testing.T) {
	for _, many := range []int{6, 12, 30, 60, 200, 1024} {
		t.Run(fmt.Sprint(many), func(t *testing.T) {
			t.Parallel()
			below := numbers(uint64(many) * 88172645463325252)
			for range 6 {
				regions := []api.Region{{From: 0, To: 30, Perm: 3}, {From: 40, To: 80, Perm: 3}, {From: 4080, To: 4096, Perm: 3}}
				w := twin{made(t, many, regions...), made(t, many, regions...)}
				for i := range 250 {
					w.step(t, below)
					if i%10 == 9 {
						w.alike(t, "a run")
					}
				}
			}
		})
	}
}

// What the slow memory does is what it should do.
func TestSlowMemory(t *testing.T) {
	k := made(t, 12, api.Region{From: 2, To: 4, Perm: 3}).fill(t, 2, 4)
	m := slow{k.s}
	if b, no := m.in(at(2, 250), 10); no != 0 || !bytes.Equal(b, marks(at(2, 250), 10)) {
		t.Errorf("in: %v, %v", b, no)
	}
	if n, no := m.out(at(3, 250), some(10)); n != 6 || no != 14 {
		t.Errorf("out: %d, %v", n, no)
	}
	if s, no := m.text(at(3, 254), 1); s != "" || no != 36 {
		t.Errorf("text: %q, %v", s, no)
	}
	if no := m.poke(at(3, 252), 0x11223344); no != 0 {
		t.Errorf("poke: %v", no)
	}
	if v, no := m.peek(at(3, 252)); v != 0x11223344 || no != 0 {
		t.Errorf("peek: %#x, %v", v, no)
	}
	k.wantBytes(t, "out and poke", 3, slices.Concat(marks(at(3, 0), 250), some(2), []byte{0x44, 0x33, 0x22, 0x11}))
}
