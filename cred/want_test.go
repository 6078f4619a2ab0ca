package cred_test

import (
	"errors"
	"fmt"
	"math"
	"testing"

	"halter/api"
	"halter/cred"
)

// call is one of a function; Check has no use for whom.
type call struct {
	name      string
	who, whom int
}

func check(uid int) call      { return call{"Check", uid, 0} }
func may(who, whom int) call  { return call{"May", who, whom} }
func become(who, to int) call { return call{"Become", who, to} }
func both(who, to int) []call { return []call{may(who, to), become(who, to)} }
func (c call) String() string { return fmt.Sprintf("%s(%d, %d)", c.name, c.who, c.whom) }

// answer is what a call answers; no is the number of its error, 0: it has none.
type answer struct {
	n  int
	ok bool
	no int
}

// done is the answer of a call that has nothing to tell.
var done = answer{}

func bad(no int) answer    { return answer{no: no} }
func num(n int) answer     { return answer{n: n} }
func tells(ok bool) answer { return answer{ok: ok} }
func (a answer) String() string {
	return fmt.Sprintf("%d, %v, error %d", a.n, a.ok, a.no)
}

// number is that of an error; -1: it has none.
func number(err error) int {
	var no api.Errno
	switch {
	case err == nil:
		return 0
	case errors.As(err, &no) && no != 0:
		return int(no)
	}
	return -1
}

// do makes a call.
func (c call) do() answer {
	var a answer
	var err error
	switch c.name {
	case "Check":
		err = cred.Check(c.who)
	case "May":
		a.ok = cred.May(c.who, c.whom)
	case "Become":
		a.n, err = cred.Become(c.who, c.whom)
	}
	a.no = number(err)
	return a
}

// wantRight holds calls against the slow ones.
func wantRight(t *testing.T, calls ...call) {
	for _, c := range calls {
		if got, want := c.do(), c.slow(); got != want {
			t.Helper()
			t.Fatalf("%v: %v, want %v", c, got, want)
		}
	}
}

// row is a call, and what it answers.
type row struct {
	c call
	a answer
}

// wantRows holds calls, and the slow ones, against what is written by hand.
func wantRows(t *testing.T, rows ...row) {
	t.Helper()
	for _, r := range rows {
		if got := r.c.do(); got != r.a {
			t.Errorf("%v: %v, want %v", r.c, got, r.a)
		}
		if got := r.c.slow(); got != r.a {
			t.Errorf("%v: the slow one answers %v, want %v", r.c, got, r.a)
		}
	}
}

// edges are users: the least and the greatest ones, and those about powers of two.
var edges = []int{
	0, 1, 2, 3, 4, 5, 7, 8, 9, 99, 100, 127, 128, 129, 255, 256, 257, 999, 1000, 1001, 1023, 1024, 4095, 4096, 9999, 10000,
	32766, 32767, 32768, 32769, 65279, 65280, 65533, 65534, 65535,
}

// strangers are no users; most are a user, also Root, modulo 2^16, 2^32 or 2^63, or but for their sign.
var strangers = []int{
	math.MinInt, math.MinInt + 1, math.MinInt + 5, math.MinInt + 65535, -1 << 48, -1<<32 - 1, -1 << 32, -1<<32 + 1, -1<<32 + 5, -1<<32 + 65535,
	math.MinInt32 - 1, math.MinInt32, math.MinInt32 + 1, -1 << 17, -65537, -65536, -65535, -65534, -32769, -32768, -32767, -1000, -257, -256, -255, -128, -5, -2, -1,
	65536, 65537, 65538, 65541, 65791, 65792, 99999, 98303, 98304, 131070, 131071, 131072, 131073, 1 << 20, 1<<24 - 1, 1 << 24,
	math.MaxInt32 - 1, math.MaxInt32, 1 << 31, 1<<31 + 1, 1<<32 - 2, 1<<32 - 1, 1 << 32, 1<<32 + 1, 1<<32 + 5, 1<<32 + 65535, 1<<32 + 65536, 1 << 48, math.MaxInt - 65535, math.MaxInt - 1, math.MaxInt,
}

// throw is a number by a fixed rule, from 0 to below the given one, and what to throw on with.
func throw(seed uint64, below int) (int, uint64) {
	seed = seed*6364136223846793005 + 1442695040888963407
	return int(seed>>33) % below, seed
}
