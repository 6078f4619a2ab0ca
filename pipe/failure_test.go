package pipe_test

import (
	"math"
	"testing"

	"halter/pipe"
)

// asked are calls of each function, with good arguments and bad ones beside the pipe.
func asked(p pipe.Pipe) []call {
	l := []call{check(p), open(p, false), open(p, true), closing(p, false), closing(p, true)}
	for _, n := range []int{math.MinInt, -1, 0, 1, 2, 63, 64, 65, math.MaxInt} {
		l = append(l, read(p, n))
	}
	for _, n := range []int{0, 1, 63, 64, 65} {
		l = append(l, write(p, counted(n)))
	}
	return l
}

// wantNotValid holds every function against a pipe that is not valid.
func wantNotValid(t *testing.T, p pipe.Pipe) {
	for _, c := range asked(p) {
		if got := c.do(t); !got.is(bad(22)) {
			t.Fatalf("%v: %v, want error 22 alone", c, got)
		}
	}
}

// A pipe that is not valid, in one way or in several: ErrArg, whatever else is wrong.
func TestNotValid(t *testing.T) {
	for _, n := range badSizes {
		for _, p := range []pipe.Pipe{with(counted(n), 0, 0), with(counted(n), 0, 1), with(counted(n), 1, 0), with(counted(n), most, most)} {
			wantNotValid(t, p)
		}
	}
	for _, n := range []int{0, 1, 63, 64, 65, 256} {
		for _, one := range badNumbers {
			for _, other := range append(goodNumbers, badNumbers...) {
				wantNotValid(t, with(counted(n), one, other))
				wantNotValid(t, with(counted(n), other, one))
			}
		}
	}
}

// Valid pipes: each error, and each one that comes ahead of another.
func TestValid(t *testing.T) {
	for n := range 65 {
		for _, readers := range goodNumbers {
			for _, writers := range goodNumbers {
				for _, c := range asked(with(counted(n), readers, writers)) {
					wantRight(t, c)
				}
			}
		}
	}
}

// Where two errors would do.
func TestFirstError(t *testing.T) {
	wantRows(t, []row{
		// A number below 0, and nothing to be read: 22 ahead of 11.
		{read(with("", 1, 1), -1), bad(22)},
		{read(with("", 0, 1), math.MinInt), bad(22)},
		// Not valid, and nothing to be read.
		{read(with("", -1, 1), 1), bad(22)},
		{read(with("", 1, most+1), 1), bad(22)},
		{read(with("", -1, 1), -1), bad(22)},
		// Full, and nobody reads: 32 ahead of 11.
		{write(with(counted(64), 0, 1), "a"), bad(32)},
		{write(with(counted(64), 0, 0), counted(65)), bad(32)},
		// Not valid, and nobody reads, or full.
		{write(with(counted(65), 0, 0), "a"), bad(22)},
		{write(with("", 0, -1), "a"), bad(22)},
		{write(with("", 0, most+1), ""), bad(22)},
		{write(with(counted(64), 1, -1), "a"), bad(22)},
		{write(with(counted(64), 0, -1), "a"), bad(22)},
		{write(with(counted(65), 1, 1), "a"), bad(22)},
		{write(with(counted(65), 1, 1), ""), bad(22)},
		{write(with("", -1, 1), "a"), bad(22)},
		// Not valid, though one more or one less would make it so.
		{open(with("", -1, 0), false), bad(22)},
		{open(with("", 0, -1), true), bad(22)},
		{closing(with("", most+1, 0), false), bad(22)},
		{closing(with("", 0, most+1), true), bad(22)},
		{closing(with(counted(65), 1, 0), false), bad(22)},
		{open(with(counted(65), 0, 0), true), bad(22)},
		// Numbers that would run over.
		{open(with("", math.MaxInt, 0), false), bad(22)},
		{open(with("", 0, math.MaxInt), true), bad(22)},
		{closing(with("", math.MinInt, 0), false), bad(22)},
		{closing(with("", 0, math.MinInt), true), bad(22)},
	})
}

// Nothing but a number beside what is wrong: the error is one of package api, found in it as errors.As does.
func TestErrorsAreNumbers(t *testing.T) {
	for _, c := range []call{check(with(counted(65), 0, 0)), read(none, -1), read(with("", 1, 1), 1), write(none, "a"), write(with(counted(64), 1, 1), "a"), closing(none, true), open(with("", most, 0), false)} {
		a, err := c.ask()
		if err == nil || a.no <= 0 {
			t.Errorf("%v: %v, %v", c, a, err)
		}
		if a.b != nil && len(a.b) > 0 || a.n != 0 || a.p.Readers != 0 || a.p.Writers != 0 || len(a.p.Bytes) > 0 {
			t.Errorf("%v: %v beside an error", c, a)
		}
	}
}
