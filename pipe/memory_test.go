package pipe_test

import (
	"bytes"
	"slices"
	"testing"

	"halter/pipe"
)

// roomy are bytes with spare room behind them.
func roomy(s string, room int) []byte {
	b := make([]byte, len(s), len(s)+room)
	copy(b, s)
	return b
}

// everyCall is each function, with pipes of each number of bytes, in pieces of some sizes.
func everyCall() []call {
	l := make([]call, 0, 2000)
	for n := range 65 {
		for _, p := range []pipe.Pipe{with(counted(n), 0, 0), with(counted(n), 1, 1), with(counted(n), 2, 0), with(counted(n), most, most)} {
			l = append(l, asked(p)...)
			l = append(l, read(p, n/2), write(p, counted((64-n)/2)))
		}
	}
	return l
}

// full is all of a list's memory, its spare room too.
func full(b []byte) []byte { return b[:cap(b)] }

// No two of what is given and what is answered share anything, their spare room neither.
func TestNothingIsShared(t *testing.T) {
	for _, c := range everyCall() {
		for one := range 4 {
			d := c
			d.p.Bytes, d.b = roomy(string(c.p.Bytes), 100), roomy(string(c.b), 100)
			a, _ := d.ask()
			lists := [][]byte{full(d.p.Bytes), full(d.b), full(a.b), full(a.p.Bytes)}
			wanted := make([][]byte, len(lists))
			for other, l := range lists {
				wanted[other] = slices.Clone(l)
			}
			turn(lists[one])
			for other, l := range lists {
				if other != one && !bytes.Equal(l, wanted[other]) {
					t.Fatalf("%v: of the pipe's bytes, the bytes, those answered and those of the pipe answered, number %d is %s when %d is written over, want %s", c, other, short(l), one, short(wanted[other]))
				}
			}
		}
	}
}

// What is answered stays, whatever is called afterwards.
func TestAnswersStay(t *testing.T) {
	calls := everyCall()
	answers := make([]answer, len(calls))
	for i, c := range calls {
		answers[i], _ = c.ask()
	}
	for i, c := range slices.Backward(calls) {
		c.ask()
		if want := c.slow(); !answers[i].is(want) {
			t.Fatalf("%v: %v in the end, want %v", c, answers[i], want)
		}
	}
}

// What is written over in an answer is nobody else's: not another answer's to the same call.
func TestAnswersAreTheirOwn(t *testing.T) {
	for _, c := range everyCall() {
		one, _ := c.ask()
		two, _ := c.ask()
		turn(full(one.b))
		turn(full(one.p.Bytes))
		three, _ := c.ask()
		if want := c.slow(); !two.is(want) || !three.is(want) {
			t.Fatalf("%v: %v and %v when another answer is written over, want %v", c, two, three, want)
		}
	}
}

// A pipe goes on in two ways, and neither of them knows of the other.
func TestTwoWays(t *testing.T) {
	p := pipe.Pipe{Bytes: roomy("abc", 61), Readers: 1, Writers: 1}
	_, one, err := pipe.Write(p, []byte("one"))
	if err != nil {
		t.Fatal(err)
	}
	_, two, err := pipe.Write(p, []byte("other"))
	if err != nil {
		t.Fatal(err)
	}
	_, three, err := pipe.Write(one, []byte("!"))
	if err != nil {
		t.Fatal(err)
	}
	gone, err := pipe.Close(two, false)
	if err != nil {
		t.Fatal(err)
	}
	for _, r := range []struct {
		p    pipe.Pipe
		want string
	}{{p, "abc"}, {one, "abcone"}, {two, "abcother"}, {three, "abcone!"}, {gone, ""}} {
		if string(r.p.Bytes) != r.want {
			t.Errorf("%s, want %s", told(r.p), r.want)
		}
	}
}

// No bytes are the same as bytes that are none, with spare room or without it.
func TestNilIsEmpty(t *testing.T) {
	empties := [][]byte{nil, {}, roomy("", 100), []byte("abc")[:0], []byte("abc")[3:]}
	for _, one := range empties {
		for _, other := range empties {
			for _, n := range []int{0, 1, 3} {
				for _, readers := range []int{0, 1, 2} {
					for _, writers := range []int{0, 1} {
						p := pipe.Pipe{Bytes: one, Readers: readers, Writers: writers}
						for _, c := range []call{check(p), read(p, n), open(p, n == 0), closing(p, n == 0), {name: "Write", p: p, b: other}} {
							wantRight(t, c)
						}
					}
				}
				c := call{name: "Write", p: with(counted(64), n, 0), b: other}
				wantRight(t, c)
			}
		}
	}
}

// The same calls have the same answers, whatever was called in between.
func TestAgain(t *testing.T) {
	calls := everyCall()
	for range 2 {
		for _, c := range calls {
			wantRight(t, c)
		}
		slices.Reverse(calls)
	}
}
