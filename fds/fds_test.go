package fds_test

import (
	"testing"

	"halter/fds"
)

// The chapter's own example, and how it goes on.
func TestExample(t *testing.T) {
	wantRows(t,
		row{put(none, 5), then(0, with(6))},
		row{put(with(6), 5), then(1, with(6, 6))},
		row{put(with(6, 6), 5), then(2, with(6, 6, 6))},
		row{put(with(6, 6, 6, 6, 6, 6, 6), 5), then(7, with(6, 6, 6, 6, 6, 6, 6, 6))},
		row{put(with(6, 6, 6, 6, 6, 6, 6, 6), 5), bad(24)},
	)
}

func TestFD1Check(t *testing.T) {
	wantRows(t,
		row{check(none), done},
		row{check(full), done},
		row{check(with(1)), done},
		row{check(with(32)), done},
		row{check(with(33)), bad(22)},
		row{check(with(-1)), bad(22)},
		row{check(with(0, 0, 0, 0, 0, 0, 0, 1)), done},
		row{check(with(0, 0, 0, 0, 0, 0, 0, 32)), done},
		row{check(with(0, 0, 0, 0, 0, 0, 0, 33)), bad(22)},
		row{check(with(0, 0, 0, 0, 0, 0, 0, -1)), bad(22)},
		row{check(with(5, 5, 5, 5, 5, 5, 5, 5)), done},
		row{check(with(32, 32, 32, 32, 32, 32, 32, 32)), done},
		row{check(with(33, 33, 33, 33, 33, 33, 33, 33)), bad(22)},
		row{check(with(-1, -1, -1, -1, -1, -1, -1, -1)), bad(22)},
		row{check(with(-1, 1)), bad(22)},
		row{check(with(1, -1)), bad(22)},
		row{check(with(33, -33)), bad(22)},
		row{check(with(0, 0, 0, 33, 1)), bad(22)},
	)
}

// Each slot at each of the eight places, beside empty ones, full ones and both.
func TestFD1CheckEveryPlace(t *testing.T) {
	for place := range 8 {
		for _, base := range []fds.Table{none, full, pattern(0x55), pattern(0xaa), with(32, 32, 32, 32, 32, 32, 32, 32)} {
			for slot := range 33 {
				wantRows(t, row{check(set(base, place, slot)), done})
			}
			for _, slot := range badSlots {
				wantRows(t, row{check(set(base, place, slot)), bad(22)})
			}
		}
	}
}

func TestFD1Put(t *testing.T) {
	wantRows(t,
		row{put(none, 0), then(0, with(1))},
		row{put(none, 31), then(0, with(32))},
		row{put(none, -1), bad(22)},
		row{put(none, 32), bad(22)},
		row{put(with(1), 0), then(1, with(1, 1))},
		row{put(with(32), 31), then(1, with(32, 32))},
		row{put(with(0, 9), 3), then(0, with(4, 9))},
		row{put(with(9, 0, 9), 3), then(1, with(9, 4, 9))},
		row{put(with(9, 0, 0, 9), 3), then(1, with(9, 4, 0, 9))},
		row{put(with(0, 0, 0, 0, 0, 0, 0, 9), 3), then(0, with(4, 0, 0, 0, 0, 0, 0, 9))},
		row{put(with(1, 2, 3, 4, 5, 6, 7), 20), then(7, with(1, 2, 3, 4, 5, 6, 7, 21))},
		row{put(with(1, 2, 3, 4, 5, 6, 0, 8), 20), then(6, with(1, 2, 3, 4, 5, 6, 21, 8))},
		row{put(full, 0), bad(24)},
		row{put(full, 31), bad(24)},
		row{put(with(32, 32, 32, 32, 32, 32, 32, 32), 31), bad(24)},
	)
}

// Tables with one descriptor free, at each place.
func TestFD1OneFree(t *testing.T) {
	for fd := range 8 {
		hole := set(full, fd, 0)
		for file := range 32 {
			wantRows(t, row{put(hole, file), then(fd, set(full, fd, file+1))})
		}
		for from := range 8 {
			if from == fd {
				wantRows(t, row{at(hole, fd), bad(9)}, row{drop(hole, fd), bad(9)}, row{dup(hole, fd), bad(9)})
				continue
			}
			wantRows(t, row{dup(hole, from), then(fd, set(full, fd, from+1))}, row{at(hole, from), num(from)}, row{drop(hole, from), then(from, set(hole, from, 0))})
		}
		wantRows(t, row{free(hole), num(1)})
	}
}

func TestFD1At(t *testing.T) {
	wantRows(t,
		row{at(with(6), 0), num(5)},
		row{at(with(6), 1), bad(9)},
		row{at(with(1), 0), num(0)},
		row{at(with(32), 0), num(31)},
		row{at(with(0, 6), 0), bad(9)},
		row{at(with(0, 6), 1), num(5)},
		row{at(full, 0), num(0)},
		row{at(full, 3), num(3)},
		row{at(full, 7), num(7)},
		row{at(full, 8), bad(9)},
		row{at(full, -1), bad(9)},
		row{at(none, 0), bad(9)},
		row{at(none, 7), bad(9)},
		row{at(none, 8), bad(9)},
		row{at(none, -1), bad(9)},
		row{at(with(9, 9, 9), 1), num(8)},
	)
}

func TestFD1Drop(t *testing.T) {
	wantRows(t,
		row{drop(with(6), 0), then(5, none)},
		row{drop(with(6), 1), bad(9)},
		row{drop(with(1), 0), then(0, none)},
		row{drop(with(32), 0), then(31, none)},
		row{drop(with(0, 6), 0), bad(9)},
		row{drop(with(0, 6), 1), then(5, none)},
		row{drop(full, 0), then(0, with(0, 2, 3, 4, 5, 6, 7, 8))},
		row{drop(full, 3), then(3, with(1, 2, 3, 0, 5, 6, 7, 8))},
		row{drop(full, 7), then(7, with(1, 2, 3, 4, 5, 6, 7))},
		row{drop(full, 8), bad(9)},
		row{drop(full, -1), bad(9)},
		row{drop(none, 0), bad(9)},
		row{drop(none, 7), bad(9)},
		row{drop(with(9, 9, 9), 1), then(8, with(9, 0, 9))},
	)
}

func TestFD1Dup(t *testing.T) {
	wantRows(t,
		row{dup(with(6), 0), then(1, with(6, 6))},
		row{dup(with(6), 1), bad(9)},
		row{dup(with(1), 0), then(1, with(1, 1))},
		row{dup(with(32), 0), then(1, with(32, 32))},
		row{dup(with(0, 6), 0), bad(9)},
		row{dup(with(0, 6), 1), then(0, with(6, 6))},
		row{dup(with(0, 0, 0, 0, 0, 0, 0, 6), 7), then(0, with(6, 0, 0, 0, 0, 0, 0, 6))},
		row{dup(with(3, 0, 5, 0, 7), 4), then(1, with(3, 7, 5, 0, 7))},
		row{dup(with(1, 2, 3, 4, 5, 6, 7), 2), then(7, with(1, 2, 3, 4, 5, 6, 7, 3))},
		row{dup(full, 0), bad(24)},
		row{dup(full, 7), bad(24)},
		row{dup(full, 8), bad(9)},
		row{dup(full, -1), bad(9)},
		row{dup(none, 0), bad(9)},
	)
}

func TestFD1Files(t *testing.T) {
	wantRows(t,
		row{files(none), listed()},
		row{files(full), listed(0, 1, 2, 3, 4, 5, 6, 7)},
		row{files(with(1)), listed(0)},
		row{files(with(32)), listed(31)},
		row{files(with(6, 6)), listed(5, 5)},
		row{files(with(9, 3, 5)), listed(8, 2, 4)},
		row{files(with(0, 9, 0, 3, 0, 9)), listed(8, 2, 8)},
		row{files(with(0, 0, 0, 0, 0, 0, 0, 1)), listed(0)},
		row{files(with(32, 0, 0, 0, 0, 0, 0, 1)), listed(31, 0)},
		row{files(with(8, 7, 6, 5, 4, 3, 2, 1)), listed(7, 6, 5, 4, 3, 2, 1, 0)},
		row{files(with(6, 6, 6, 6, 6, 6, 6, 6)), listed(5, 5, 5, 5, 5, 5, 5, 5)},
	)
}

func TestFD1Free(t *testing.T) {
	wantRows(t,
		row{free(none), num(8)},
		row{free(full), num(0)},
		row{free(with(1)), num(7)},
		row{free(with(32)), num(7)},
		row{free(with(6, 6)), num(6)},
		row{free(with(0, 9, 0, 3, 0, 9)), num(5)},
		row{free(with(0, 0, 0, 0, 0, 0, 0, 1)), num(7)},
		row{free(with(6, 6, 6, 6, 6, 6, 6, 6)), num(0)},
	)
}

// asked are calls of each function, with numbers that are good and with some that are not.
func asked(k fds.Table) []call {
	l := []call{check(k), files(k), free(k), put(k, -1), put(k, 0), put(k, 15), put(k, 31), put(k, 32)}
	for fd := -1; fd < 9; fd++ {
		l = append(l, at(k, fd), drop(k, fd), dup(k, fd))
	}
	return l
}

// Each table whose slots are the least, the greatest, or free.
func TestFD1EveryTable(t *testing.T) {
	for n := range 6561 {
		k := none
		for fd := range 8 {
			k.Slots[fd] = []int{0, 1, 32}[n%3]
			n /= 3
		}
		for _, c := range asked(k) {
			wantRight(t, c)
		}
	}
}

// Each way in which descriptors are free and taken, with every file and every descriptor, and with numbers that are none.
func TestFD1EveryNumber(t *testing.T) {
	for bits := range 256 {
		k := pattern(bits)
		for n := -40; n <= 72; n++ {
			for _, c := range []call{put(k, n), at(k, n), drop(k, n), dup(k, n)} {
				wantRight(t, c)
			}
		}
		for _, c := range asked(k) {
			wantRight(t, c)
		}
	}
}

// Each slot at each place, beside others that are free and taken.
func TestFD1EverySlot(t *testing.T) {
	for place := range 8 {
		for slot := range 33 {
			for _, base := range []fds.Table{none, full, pattern(0x0f), pattern(0xf0), pattern(0x55)} {
				for _, c := range asked(set(base, place, slot)) {
					wantRight(t, c)
				}
			}
		}
	}
}
