package space_test

import (
	"fmt"
	"testing"

	"halter/api"
)

// calls are those of the short runs, with one memory and a fork of it; what can't be called is left out.
var calls = []func(t *testing.T, w *world){
	func(t *testing.T, w *world) { w.first().mapping(t, 63, 65, 7) },
	func(t *testing.T, w *world) { w.first().unmap(t, 63, 64) },
	func(t *testing.T, w *world) { w.last().unmap(t, 63, 65) },
	func(t *testing.T, w *world) { w.last().protect(t, 63, 64, 5) },
	func(t *testing.T, w *world) { w.first().reach(t, 63, 1) },
	func(t *testing.T, w *world) { w.last().reach(t, 63, 2) },
	func(t *testing.T, w *world) { w.first().write(t, at(63, 5), []byte{1, 2, 3}, true) },
	func(t *testing.T, w *world) { w.first().write(t, at(64, 0), []byte{4}, false) },
	func(t *testing.T, w *world) { w.last().write(t, at(63, 6), []byte{5, 6}, false) },
	func(t *testing.T, w *world) { w.last().write(t, at(64, 0), []byte{7, 8}, true) },
	func(t *testing.T, w *world) { w.last().read(t, at(64, 0), 256, 1) },
	func(t *testing.T, w *world) { w.first().fork(t) },
	func(t *testing.T, w *world) { w.last().fork(t) },
	func(t *testing.T, w *world) {
		if len(w.all) > 1 {
			w.first().free(t)
		}
	},
	func(t *testing.T, w *world) {
		if len(w.all) > 1 {
			w.last().free(t)
		}
	},
}

func (w *world) first() *model { return w.all[0] }

func (w *world) last() *model { return w.all[len(w.all)-1] }

// All runs of four calls, with so few frames that there are none free now and then, behind a Map and without it.
func TestSP5EveryShortRun(t *testing.T) {
	const length = 4
	runs := 1
	for range length {
		runs *= len(calls)
	}
	for _, many := range []int{3, 4, 5, 6, 7, 20} {
		t.Run(fmt.Sprint(many), func(t *testing.T) {
			t.Parallel()
			for run := range runs {
				w := made(t, many)
				m := w.begin(t)
				if run%2 == 0 || many > 5 {
					m.mapping(t, 63, 65, 3)
				}
				for range length {
					calls[run%len(calls)](t, w)
					run /= len(calls)
				}
				w.check(t)
			}
		})
	}
}

// step does something, whatever it is, to a memory and to what it should be.
func (m *model) step(t *testing.T, below func(limit int) int) {
	t.Helper()
	page := edges[below(len(edges))] + below(5) - 2
	if below(12) == 0 {
		page = badPages[below(len(badPages))]
	}
	to := page + below(6)
	if below(60) == 0 {
		to = page + below(4100)
	}
	use := []uint8{0, 1, 2, 4, 2, 2, 3, 8}[below(8)]
	n := below(258)
	switch below(12) {
	case 0, 1:
		m.mapping(t, page, to, uint8(below(9)))
	case 2:
		m.unmap(t, page, to)
	case 3:
		m.protect(t, page, to, uint8(below(9)))
	case 4, 5:
		m.reach(t, page, use)
	case 6, 7:
		m.read(t, at(page, below(4)), n-1, use)
	default:
		b := make([]byte, n)
		for i := range b {
			b[i] = byte(below(256))
		}
		m.write(t, at(page, below(4)), b, below(2) == 0)
	}
}

// turn begins a memory, forks one or frees one, or lets somebody else take frames, or give them back.
func (w *world) turn(t *testing.T, below func(limit int) int) {
	t.Helper()
	switch below(6) {
	case 0:
		if w.free() == 0 {
			w.wantNoNew(t, api.ErrMemory)
		} else if len(w.all) < 6 {
			w.begin(t).mapping(t, 0, 1+below(4096), 7)
		}
	case 1, 2:
		if len(w.all) < 6 {
			w.all[below(len(w.all))].fork(t)
		}
	case 3:
		if len(w.all) > 1 {
			w.all[below(len(w.all))].free(t)
		}
	case 4:
		w.leave(t, min(w.free(), below(9)))
	default:
		w.leave(t, min(w.free()+len(w.others), w.free()+below(w.many)))
	}
}

// Several memories of the same frames, many or few, which are forked and freed now and then.
func TestSP5LongRun(t *testing.T) {
	for _, many := range []int{4, 6, 9, 15, 30, 60, 200, 1024} {
		turns := 10 + many/3
		t.Run(fmt.Sprint(many), func(t *testing.T) {
			t.Parallel()
			below := numbers()
			w := made(t, many)
			w.begin(t).mapping(t, 60, 4096, 7)
			for i := range 4000 {
				w.all[below(len(w.all))].step(t, below)
				if below(turns) == 0 {
					w.turn(t, below)
				}
				if i%20 == 0 {
					w.check(t)
				}
			}
			w.check(t)
			for len(w.all) > 0 {
				w.all[below(len(w.all))].free(t)
			}
			w.leave(t, many)
			w.wantTaken(t, 0)
		})
	}
}
