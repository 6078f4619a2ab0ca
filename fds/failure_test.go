package fds_test

import (
	"math"
	"testing"

	"halter/fds"
)

// wantNotValid holds every function against a table that is not valid.
func wantNotValid(t *testing.T, k fds.Table) {
	t.Helper()
	for _, c := range asked(k) {
		want := bad(22)
		if c.name == "Files" || c.name == "Free" {
			want = done
		}
		if got := c.do(t); !got.is(want) {
			t.Fatalf("%v: %v, want %v", c, got, want)
		}
	}
}

// Each slot that can't be, at each of the eight places, beside each way in which the others are free and taken.
func TestNotValid(t *testing.T) {
	for _, slot := range badSlots {
		for place := range 8 {
			for bits := range 256 {
				wantNotValid(t, set(pattern(bits), place, slot))
			}
			wantNotValid(t, set(full, place, slot))
		}
	}
}

// Two slots that can't be: whether they make up for each other or not.
func TestNotValidTwice(t *testing.T) {
	for one := range 8 {
		for other := range 8 {
			for _, slot := range badSlots {
				for _, second := range []int{-slot, 33 - slot, slot, -1, 33, math.MinInt, math.MaxInt} {
					if second >= 0 && second <= 32 && one == other {
						continue
					}
					wantNotValid(t, set(set(none, one, slot), other, second))
					wantNotValid(t, set(set(full, one, slot), other, second))
				}
			}
		}
	}
}

// Files that can't be, in tables with room and in full ones, where ErrFds would do too.
func TestPutNoFile(t *testing.T) {
	for bits := range 256 {
		for _, file := range badFiles {
			wantRows(t, row{put(pattern(bits), file), bad(22)})
		}
	}
}

// Numbers that are no descriptor, in each table, also in full ones, where ErrFds would do too.
func TestNoDescriptor(t *testing.T) {
	for bits := range 256 {
		k := pattern(bits)
		for _, fd := range badFds {
			wantRows(t, row{at(k, fd), bad(9)}, row{drop(k, fd), bad(9)}, row{dup(k, fd), bad(9)})
		}
	}
}

// Descriptors that are free, in each table; those that are not have no error.
func TestFreeDescriptor(t *testing.T) {
	for bits := range 256 {
		k := pattern(bits)
		for fd := range 8 {
			if bits>>fd&1 == 0 {
				wantRows(t, row{at(k, fd), bad(9)}, row{drop(k, fd), bad(9)}, row{dup(k, fd), bad(9)})
				continue
			}
			wantRows(t, row{at(k, fd), num(31 - 3*fd)}, row{drop(k, fd), then(31-3*fd, pattern(bits&^(1<<fd)))})
		}
	}
}

// Full tables: every file that can be put, and every descriptor that can be doubled.
func TestNoneFree(t *testing.T) {
	for _, k := range []fds.Table{full, pattern(255), with(1, 1, 1, 1, 1, 1, 1, 1), with(32, 32, 32, 32, 32, 32, 32, 32), with(1, 32, 1, 32, 1, 32, 1, 32)} {
		for file := range 32 {
			wantRows(t, row{put(k, file), bad(24)})
		}
		for fd := range 8 {
			wantRows(t, row{dup(k, fd), bad(24)})
		}
		wantRows(t, row{check(k), done}, row{free(k), num(0)})
	}
}

// Where two errors would do.
func TestFirstError(t *testing.T) {
	wrong := with(1, 2, 3, 4, 5, 6, 7, 33)
	below := with(1, 2, 3, 4, 5, 6, 7, -1)
	wantRows(t,
		// Not valid, and no such file, no descriptor free, or both.
		row{put(wrong, 32), bad(22)},
		row{put(wrong, 0), bad(22)},
		row{put(below, 0), bad(22)},
		row{put(with(33), -1), bad(22)},
		// No such file, and no descriptor free: 22 ahead of 24.
		row{put(full, 32), bad(22)},
		row{put(full, -1), bad(22)},
		row{put(full, math.MinInt), bad(22)},
		row{put(full, math.MaxInt), bad(22)},
		// Not valid, and no such descriptor: 22 ahead of 9.
		row{at(wrong, 8), bad(22)},
		row{at(wrong, -1), bad(22)},
		row{at(with(33), 1), bad(22)},
		row{at(with(33), 0), bad(22)},
		row{at(with(-1), 0), bad(22)},
		row{drop(below, 8), bad(22)},
		row{drop(with(-1), 1), bad(22)},
		row{dup(with(-1), 1), bad(22)},
		// Not valid, and no descriptor free: 22 ahead of 24.
		row{dup(wrong, 0), bad(22)},
		row{dup(below, 0), bad(22)},
		row{dup(wrong, 7), bad(22)},
		// No such descriptor, and none free: 9 ahead of 24.
		row{dup(full, 8), bad(9)},
		row{dup(full, -1), bad(9)},
		row{dup(full, math.MinInt), bad(9)},
		row{dup(full, math.MaxInt), bad(9)},
		// Not valid, though the descriptor that is asked for is right, or the call would make the table valid.
		row{at(wrong, 0), bad(22)},
		row{drop(wrong, 0), bad(22)},
		row{drop(wrong, 7), bad(22)},
		row{drop(below, 7), bad(22)},
	)
}

// Beside an error there is nothing: no number, no part of the table that was given.
func TestNothingBesideAnError(t *testing.T) {
	wrong := with(1, 2, 3, 4, 5, 6, 7, 33)
	hole := with(9, 0, 9)
	for _, c := range []call{
		check(wrong), put(wrong, 5), at(wrong, 3), drop(wrong, 3), dup(wrong, 3), drop(wrong, 7),
		put(none, -1), put(none, 32), put(hole, 32), put(full, 5), put(full, 32),
		at(hole, 1), at(hole, 8), at(hole, -1), drop(hole, 1), drop(hole, 8), drop(hole, -1), dup(hole, 1), dup(hole, 8), dup(hole, -1), dup(full, 5),
	} {
		a, err := c.ask()
		if err == nil || a.no <= 0 || a.n != 0 || a.t != none || len(a.l) > 0 {
			t.Errorf("%v: %v, %v, want an error alone", c, a, err)
		}
	}
}

// Calls that fail, as often as one likes: the table is as if there had been none of them.
func TestFailuresChangeNothing(t *testing.T) {
	for bits := range 256 {
		k := pattern(bits)
		for range 3 {
			for _, c := range asked(k) {
				wantRight(t, c)
			}
			wantHeld(t, k, held(bits))
		}
	}
}

// held is what a pattern holds.
func held(bits int) holding {
	h := holding{}
	for fd := range 8 {
		if bits>>fd&1 > 0 {
			h[fd] = 31 - 3*fd
		}
	}
	return h
}
