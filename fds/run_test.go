package fds_test

import (
	"maps"
	"testing"

	"halter/fds"
)

// wantHeld holds all that a table tells against what should be held: Check, At of every descriptor, Files and Free.
func wantHeld(t *testing.T, k fds.Table, h holding) {
	t.Helper()
	var l []int
	for fd := -1; fd < 9; fd++ {
		want := bad(9)
		if file, taken := h[fd]; taken {
			want = num(file)
			l = append(l, file)
		}
		wantTold(t, at(k, fd), want)
	}
	wantTold(t, check(k), done)
	wantTold(t, files(k), listed(l...))
	wantTold(t, free(k), num(8-len(h)))
}

func wantTold(t *testing.T, c call, want answer) {
	if got, _ := c.ask(); !got.is(want) {
		t.Helper()
		t.Fatalf("%v: %v, want %v", c, got, want)
	}
}

// process has a table in use, and what was put into it and not dropped yet: that is kept apart, and never read out of the table.
type process struct {
	k fds.Table
	h holding
}

func started() process { return process{none, holding{}} }

// least is the first descriptor that is free; 8: none is.
func (p process) least() int {
	for fd := range 8 {
		if _, taken := p.h[fd]; !taken {
			return fd
		}
	}
	return 8
}

// expected is what a call should answer, without the table, and what should be held then.
func (p process) expected(c call) (answer, holding) {
	next := maps.Clone(p.h)
	file, taken := p.h[c.n]
	fd := p.least()
	switch {
	case c.name == "Put" && (c.n < 0 || c.n > 31):
		return bad(22), next
	case c.name == "Put":
		file = c.n
	case !taken:
		return bad(9), next
	}
	if c.name == "Drop" {
		delete(next, c.n)
		return num(file), next
	}
	if fd == 8 {
		return bad(24), next
	}
	next[fd] = file
	return num(fd), next
}

// step makes a call with the table as it is; the process goes on as the answer says.
func (p process) step(t *testing.T, c call) process {
	t.Helper()
	c.t = p.k
	got := wantRight(t, c)
	want, h := p.expected(c)
	if got.n != want.n || got.no != want.no {
		t.Fatalf("%v: %v, want %v", c, got, want)
	}
	if got.no == 0 {
		p.k = got.t
	}
	p.h = h
	wantHeld(t, p.k, p.h)
	return p
}

// begun is a process in which descriptors are free and taken as in a pattern: all are put, then some dropped.
func begun(t *testing.T, bits int) process {
	t.Helper()
	p := started()
	for fd := range 8 {
		p = p.step(t, put(none, 31-3*fd))
	}
	for fd := range 8 {
		if bits>>fd&1 == 0 {
			p = p.step(t, drop(none, fd))
		}
	}
	if p.k != pattern(bits) {
		t.Fatalf("%v, want %v", p.k, pattern(bits))
	}
	return p
}

// An ordinary life of a table, by hand.
func TestOrdinary(t *testing.T) {
	p := started()
	for _, s := range []struct {
		c    call
		want int
		now  fds.Table
	}{
		{put(none, 0), 0, with(1)},
		{put(none, 0), 1, with(1, 1)},
		{put(none, 4), 2, with(1, 1, 5)},
		{dup(none, 2), 3, with(1, 1, 5, 5)},
		{drop(none, 2), 4, with(1, 1, 0, 5)},
		{drop(none, 0), 0, with(0, 1, 0, 5)},
		{put(none, 31), 0, with(32, 1, 0, 5)},
		{dup(none, 0), 2, with(32, 1, 32, 5)},
		{dup(none, 1), 4, with(32, 1, 32, 5, 1)},
		{drop(none, 3), 4, with(32, 1, 32, 0, 1)},
		{drop(none, 1), 0, with(32, 0, 32, 0, 1)},
		{drop(none, 4), 0, with(32, 0, 32)},
		{put(none, 7), 1, with(32, 8, 32)},
		{put(none, 7), 3, with(32, 8, 32, 8)},
	} {
		s.c.t = p.k
		if got := s.c.do(t); !got.is(then(s.want, s.now)) {
			t.Fatalf("%v: %v, want %v", s.c, got, then(s.want, s.now))
		}
		p = p.step(t, s.c)
	}
}

// steps are calls for runs; the table comes from the run.
var steps = []call{
	put(none, 0), put(none, 5), put(none, 31), put(none, 32), put(none, -1),
	drop(none, 0), drop(none, 1), drop(none, 2), drop(none, 7), drop(none, 8),
	dup(none, 0), dup(none, 1), dup(none, 7), dup(none, -1),
}

// every makes each run of so many steps more.
func every(t *testing.T, p process, many int) {
	if many == 0 {
		return
	}
	for _, c := range steps {
		every(t, p.step(t, c), many-1)
	}
}

func TestEveryShortRun(t *testing.T) {
	every(t, started(), 4)
	for _, bits := range []int{0x01, 0x7f, 0xff, 0xfe, 0x55, 0x80} {
		every(t, begun(t, bits), 3)
	}
}

// FD2: whatever is done with the other descriptors, a file stays at its own.
func TestFD2FileStays(t *testing.T) {
	for fd := range 8 {
		for _, file := range []int{0, 5, 31} {
			p := started()
			for range fd {
				p = p.step(t, put(none, 20))
			}
			p = p.step(t, put(none, file))
			for bits := range 256 {
				p = p.toward(t, bits|1<<fd, fd)
				if got, err := fds.At(p.k, fd); got != file || err != nil {
					t.Fatalf("At(%v, %d): %d, %v, want %d", p.k, fd, got, err, file)
				}
			}
			p = p.step(t, drop(none, fd))
			wantTold(t, at(p.k, fd), bad(9))
		}
	}
}

// toward drops and puts till just those descriptors are taken whose bits are set; one is left alone.
func (p process) toward(t *testing.T, bits, alone int) process {
	t.Helper()
	for p.least() < 8 {
		p = p.step(t, dup(none, alone))
	}
	for fd := range 8 {
		if fd != alone && bits>>fd&1 == 0 {
			p = p.step(t, drop(none, fd))
		}
	}
	return p
}

// FD2: each call, in each table: no slot is another one then but that of the descriptor that was given or dropped.
func TestFD2OthersStay(t *testing.T) {
	for bits := range 256 {
		k := pattern(bits)
		for _, c := range asked(k) {
			a, err := c.ask()
			if err != nil || c.name == "Check" || c.name == "At" || c.name == "Files" || c.name == "Free" {
				continue
			}
			changed := a.n
			if c.name == "Drop" {
				changed = c.n
			}
			for fd := range 8 {
				if stays := a.t.Slots[fd] == k.Slots[fd]; stays == (fd == changed) {
					t.Fatalf("%v: %v", c, a)
				}
			}
		}
	}
}

// Some descriptors of each table are dropped: those are given again, the least first, and no others.
func TestFD2DropAndPut(t *testing.T) {
	for bits := range 256 {
		for gone := range 256 {
			if gone&bits != gone {
				continue
			}
			k := pattern(bits)
			for fd := range 8 {
				if gone>>fd&1 > 0 {
					_, k, _ = fds.Drop(k, fd)
				}
			}
			if k != pattern(bits&^gone) {
				t.Fatalf("%v, want %v", k, pattern(bits&^gone))
			}
			for fd := range 8 {
				if bits&^gone>>fd&1 == 0 {
					wantTold(t, put(k, 31-3*fd), then(fd, set(k, fd, 32-3*fd)))
					k = set(k, fd, 32-3*fd)
				}
			}
			wantTold(t, put(k, 0), bad(24))
		}
	}
}

// The same file at several descriptors: each is dropped alone.
func TestFD2SameFile(t *testing.T) {
	for file := range 32 {
		for from := range 8 {
			p := started()
			for range from + 1 {
				p = p.step(t, put(none, file))
			}
			for range 7 - from {
				p = p.step(t, dup(none, from))
			}
			p = p.step(t, dup(none, from))
			wantTold(t, files(p.k), listed(file, file, file, file, file, file, file, file))
			p = p.step(t, drop(none, from))
			wantTold(t, files(p.k), listed(file, file, file, file, file, file, file))
			for fd := range 8 {
				p = p.step(t, drop(none, fd))
			}
			if p.k != none {
				t.Fatalf("%v, want the empty table", p.k)
			}
		}
	}
}

// orders calls f with a list in every order of what stands from a place on.
func orders(l []int, from int, f func([]int)) {
	if from == len(l) {
		f(l)
		return
	}
	for i := from; i < len(l); i++ {
		l[from], l[i] = l[i], l[from]
		orders(l, from+1, f)
		l[from], l[i] = l[i], l[from]
	}
}

// All descriptors are dropped, in every order.
func TestEveryOrderOfDrops(t *testing.T) {
	orders([]int{0, 1, 2, 3, 4, 5, 6, 7}, 0, func(l []int) {
		k := full
		for many, fd := range l {
			file, next, err := fds.Drop(k, fd)
			if file != fd || err != nil || fds.Free(next) != many+1 || next != set(k, fd, 0) {
				t.Fatalf("Drop(%v, %d): %d, %v, %v", k, fd, file, next, err)
			}
			k = next
		}
	})
}

// numbers are some that look as if drawn: the same ones each time.
func numbers(seed uint64) func(most int) int {
	x := seed*0x9e3779b97f4a7c15 + 1
	return func(most int) int {
		x ^= x << 13
		x ^= x >> 7
		x ^= x << 17
		return int(x >> 33 % uint64(most))
	}
}

// Long runs: files and descriptors of every number, in tables that are mostly empty, mostly full, or in between.
func TestLongRuns(t *testing.T) {
	for seed := range 300 {
		number := numbers(uint64(seed))
		p := started()
		drops := 1 + seed%3
		for range 300 {
			c := put(none, number(34)-1)
			switch n := number(6); {
			case n < drops:
				c = drop(none, number(10)-1)
			case n == 5:
				c = dup(none, number(10)-1)
			}
			p = p.step(t, c)
		}
	}
}
