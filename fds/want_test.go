package fds_test

import (
	"errors"
	"fmt"
	"math"
	"slices"
	"testing"

	"halter/api"
	"halter/fds"
)

// call is one of a function; n is the file of Put, otherwise the descriptor, for which Check, Files and Free have no use.
type call struct {
	name string
	t    fds.Table
	n    int
}

func check(t fds.Table) call         { return call{"Check", t, 0} }
func put(t fds.Table, file int) call { return call{"Put", t, file} }
func at(t fds.Table, fd int) call    { return call{"At", t, fd} }
func drop(t fds.Table, fd int) call  { return call{"Drop", t, fd} }
func dup(t fds.Table, fd int) call   { return call{"Dup", t, fd} }
func files(t fds.Table) call         { return call{"Files", t, 0} }
func free(t fds.Table) call          { return call{"Free", t, 0} }

// with is a table whose first slots are these; the others are 0.
func with(slots ...int) fds.Table {
	var t fds.Table
	if copy(t.Slots[:], slots) != len(slots) {
		panic("more slots than there are")
	}
	return t
}

// set is a table with another number in a slot.
func set(t fds.Table, place, slot int) fds.Table {
	t.Slots[place] = slot
	return t
}

// none is the empty table; full has another file at each descriptor.
var (
	none = fds.Table{}
	full = with(1, 2, 3, 4, 5, 6, 7, 8)
)

// pattern has a file at each descriptor whose bit is set, not at the others: no two files are alike.
func pattern(bits int) fds.Table {
	t := none
	for fd := range 8 {
		if bits>>fd&1 > 0 {
			t.Slots[fd] = 32 - 3*fd
		}
	}
	return t
}

func (c call) String() string {
	switch c.name {
	case "Check", "Files", "Free":
		return fmt.Sprintf("%s(%v)", c.name, c.t.Slots)
	}
	return fmt.Sprintf("%s(%v, %d)", c.name, c.t.Slots, c.n)
}

// answer is what a call answers; no is the number of its error, 0: it has none.
type answer struct {
	n  int
	t  fds.Table
	l  []int
	no int
}

// done is the answer of a call that has nothing to tell.
var done = answer{}

func bad(no int) answer              { return answer{no: no} }
func num(n int) answer               { return answer{n: n} }
func then(n int, t fds.Table) answer { return answer{n: n, t: t} }
func listed(l ...int) answer         { return answer{l: l} }
func (a answer) String() string {
	return fmt.Sprintf("%d, %v, %v, error %d", a.n, a.t.Slots, a.l, a.no)
}

func (a answer) is(o answer) bool {
	return a.n == o.n && a.t == o.t && a.no == o.no && slices.Equal(a.l, o.l)
}

// number is that of an error; -1: it has none.
func number(err error) int {
	var no api.Errno
	switch {
	case err == nil:
		return 0
	case errors.As(err, &no) && no != 0:
		return int(no)
	}
	return -1
}

// ask calls the function: what it answers, as it is.
func (c call) ask() (answer, error) {
	var a answer
	var err error
	switch c.name {
	case "Check":
		err = fds.Check(c.t)
	case "Put":
		a.n, a.t, err = fds.Put(c.t, c.n)
	case "At":
		a.n, err = fds.At(c.t, c.n)
	case "Drop":
		a.n, a.t, err = fds.Drop(c.t, c.n)
	case "Dup":
		a.n, a.t, err = fds.Dup(c.t, c.n)
	case "Files":
		a.l = fds.Files(c.t)
	case "Free":
		a.n = fds.Free(c.t)
	}
	a.no = number(err)
	return a, err
}

func scribble(l []int) {
	for i := range l {
		l[i] = -77
	}
}

// do makes a call. The table that it is given must stay as it is; the list that it answers is written over afterwards, with its spare room: whoever shares any of it has other numbers then.
func (c call) do(t *testing.T) answer {
	d := c
	a, _ := d.ask()
	if d != c {
		t.Errorf("%v: its arguments are %v now", c, d)
	}
	got := a
	got.l = slices.Clone(a.l)
	scribble(a.l[:cap(a.l)])
	return got
}

// wantRight holds a call against the slow one.
func wantRight(t *testing.T, c call) answer {
	got, want := c.do(t), c.slow()
	if !got.is(want) {
		t.Helper()
		t.Fatalf("%v: %v, want %v", c, got, want)
	}
	return got
}

// row is a call, and what it answers.
type row struct {
	c call
	a answer
}

// wantRows holds calls, and the slow ones, against what is written by hand.
func wantRows(t *testing.T, rows ...row) {
	t.Helper()
	for _, r := range rows {
		if got := r.c.do(t); !got.is(r.a) {
			t.Errorf("%v: %v, want %v", r.c, got, r.a)
		}
		if got := r.c.slow(); !got.is(r.a) {
			t.Errorf("%v: the slow one answers %v, want %v", r.c, got, r.a)
		}
	}
}

// Numbers that are none of a file, of a slot or of a descriptor: the limits, and numbers that are good ones modulo a power of two.
var (
	farNumbers = []int{
		math.MinInt, math.MinInt + 1, math.MinInt + 2, -1 << 32, -1<<32 + 1, -1<<32 + 2, math.MinInt32, math.MinInt32 + 1, -65536, -65535, -257, -256, -255, -65, -64, -33, -32, -31,
		64, 65, 127, 128, 255, 256, 257, 258, 288, 65536, 65537, math.MaxInt32, 1 << 31, 1<<31 + 1, 1 << 32, 1<<32 + 1, 1<<32 + 5, 1<<32 + 32, math.MaxInt - 1, math.MaxInt,
	}
	badSlots = append(slices.Clone(farNumbers), -9, -8, -7, -2, -1, 33, 34, 63)
	badFiles = append(slices.Clone(farNumbers), -9, -8, -7, -2, -1, 32, 33, 63)
	badFds   = append(slices.Clone(farNumbers), -9, -8, -7, -2, -1, 8, 9, 15, 16, 17, 31, 32, 33)
)
