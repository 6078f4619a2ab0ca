package pipe_test

import (
	"bytes"
	"errors"
	"fmt"
	"math"
	"slices"
	"testing"

	"halter/api"
	"halter/pipe"
)

// most is the greatest number of readers, and of writers.
const most = 1048576

// call is one of a function; most functions have no use for some of its parts.
type call struct {
	name  string
	p     pipe.Pipe
	n     int
	b     []byte
	write bool
}

func check(p pipe.Pipe) call               { return call{name: "Check", p: p} }
func read(p pipe.Pipe, n int) call         { return call{name: "Read", p: p, n: n} }
func write(p pipe.Pipe, s string) call     { return call{name: "Write", p: p, b: []byte(s)} }
func open(p pipe.Pipe, write bool) call    { return call{name: "Open", p: p, write: write} }
func closing(p pipe.Pipe, write bool) call { return call{name: "Close", p: p, write: write} }

// with is a pipe of these bytes, readers and writers.
func with(s string, readers, writers int) pipe.Pipe {
	return pipe.Pipe{Bytes: []byte(s), Readers: readers, Writers: writers}
}

// none is the zero value of a pipe.
var none = pipe.Pipe{}

// short is a text of which there is no more than can be read.
func short(b []byte) string {
	if len(b) > 70 {
		return fmt.Sprintf("%q.. (%d)", b[:40], len(b))
	}
	return fmt.Sprintf("%q", b)
}

func told(p pipe.Pipe) string { return fmt.Sprintf("{%s %d %d}", short(p.Bytes), p.Readers, p.Writers) }

func (c call) String() string {
	switch c.name {
	case "Read":
		return fmt.Sprintf("Read(%s, %d)", told(c.p), c.n)
	case "Write":
		return fmt.Sprintf("Write(%s, %s)", told(c.p), short(c.b))
	case "Open", "Close":
		return fmt.Sprintf("%s(%s, %v)", c.name, told(c.p), c.write)
	}
	return fmt.Sprintf("%s(%s)", c.name, told(c.p))
}

// answer is what a call answers; no is the number of its error, 0: it has none.
type answer struct {
	n  int
	b  []byte
	p  pipe.Pipe
	no int
}

func bad(no int) answer                  { return answer{no: no} }
func left(p pipe.Pipe) answer            { return answer{p: p} }
func taken(s string, p pipe.Pipe) answer { return answer{b: []byte(s), p: p} }
func laid(n int, p pipe.Pipe) answer     { return answer{n: n, p: p} }

func (a answer) String() string {
	return fmt.Sprintf("%d, %s, %s, error %d", a.n, short(a.b), told(a.p), a.no)
}

func (a answer) is(o answer) bool {
	return a.n == o.n && a.no == o.no && bytes.Equal(a.b, o.b) && same(a.p, o.p)
}

func same(p, o pipe.Pipe) bool {
	return p.Readers == o.Readers && p.Writers == o.Writers && bytes.Equal(p.Bytes, o.Bytes)
}

// number is that of an error; -1: it has none.
func number(err error) int {
	var no api.Errno
	switch {
	case err == nil:
		return 0
	case errors.As(err, &no) && no != 0:
		return int(no)
	}
	return -1
}

// ask calls the function: what it answers, as it is.
func (c call) ask() (answer, error) {
	var a answer
	var err error
	switch c.name {
	case "Check":
		err = pipe.Check(c.p)
	case "Read":
		a.b, a.p, err = pipe.Read(c.p, c.n)
	case "Write":
		a.n, a.p, err = pipe.Write(c.p, c.b)
	case "Open":
		a.p, err = pipe.Open(c.p, c.write)
	case "Close":
		a.p, err = pipe.Close(c.p, c.write)
	}
	a.no = number(err)
	return a, err
}

// between are bytes as a part of more of them, and those; nothing, where there are none.
func between(b []byte) (part, whole []byte) {
	if b == nil {
		return nil, nil
	}
	whole = slices.Concat([]byte("ahead"), b, make([]byte, 80))
	return whole[5 : 5+len(b)], whole
}

// turn writes bytes over, so that each of them is another one.
func turn(b []byte) {
	for i := range b {
		b[i] = ^b[i]
	}
}

// do makes a call. What it is given must stay as it is, with what lies beside it, and is written over afterwards, and so is what it answers, with its spare room: whoever shares any of it has other bytes then.
func (c call) do(t *testing.T) answer {
	d := c
	var allOfPipe, all []byte
	d.p.Bytes, allOfPipe = between(c.p.Bytes)
	d.b, all = between(c.b)
	a, _ := d.ask()
	if _, now := between(c.p.Bytes); !bytes.Equal(allOfPipe, now) {
		t.Errorf("%v: the bytes of the pipe that it was given, and others beside them, are %q now", c, allOfPipe)
	}
	if _, now := between(c.b); !bytes.Equal(all, now) {
		t.Errorf("%v: the bytes that it was given, and others beside them, are %q now", c, all)
	}
	turn(allOfPipe)
	turn(all)
	got := a
	got.b = slices.Clone(a.b)
	turn(a.b[:cap(a.b)])
	got.p.Bytes = slices.Clone(a.p.Bytes)
	turn(a.p.Bytes[:cap(a.p.Bytes)])
	return got
}

// wantRight holds a call against the slow one.
func wantRight(t *testing.T, c call) answer {
	got, want := c.do(t), c.slow()
	if !got.is(want) {
		t.Fatalf("%v: %v, want %v", c, got, want)
	}
	return got
}

// row is a call, and what it answers.
type row struct {
	c call
	a answer
}

// wantRows holds calls, and the slow ones, against what is written by hand.
func wantRows(t *testing.T, rows []row) {
	t.Helper()
	for _, r := range rows {
		if got := r.c.do(t); !got.is(r.a) {
			t.Errorf("%v: %v, want %v", r.c, got, r.a)
		}
		if got := r.c.slow(); !got.is(r.a) {
			t.Errorf("%v: the slow one answers %v, want %v", r.c, got, r.a)
		}
	}
}

// The numbers of readers and writers that can be, and those that can't: the limits, and numbers that are small ones modulo 2^8, 2^16, 2^20, 2^31 or 2^32.
var (
	goodNumbers = []int{0, 1, 2, 255, 256, 65535, 65536, most - 2, most - 1, most}
	badNumbers  = []int{-1, -2, -256, -most, -most - 1, math.MinInt32, math.MinInt, math.MinInt + 1, most + 1, most + 2, 2 * most, 1<<31 - 1, 1 << 31, 1 << 32, 1<<32 + 1, math.MaxInt - 1, math.MaxInt}
	badSizes    = []int{65, 66, 127, 128, 255, 256, 257, 320, 4096, 1 << 16, 1<<16 + 1, 1<<16 + 64}
)

// counted are so many bytes, from 0 on, no two alike that are near each other.
func counted(many int) string {
	b := make([]byte, many)
	for i := range b {
		b[i] = byte(i * 7)
	}
	return string(b)
}
