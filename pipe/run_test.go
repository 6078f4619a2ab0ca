package pipe_test

import (
	"bytes"
	"testing"

	"halter/pipe"
)

// numbers are some that look as if drawn: the same ones each time.
func numbers(seed uint64) func(most int) int {
	x := seed*0x9e3779b97f4a7c15 + 1
	return func(most int) int {
		x ^= x << 13
		x ^= x >> 7
		x ^= x << 17
		return int(x >> 33 % uint64(most))
	}
}

// line is a pipe in use, with all that was written into it and all that was read.
type line struct {
	p          pipe.Pipe
	in, out    []byte
	lost, next int
}

// fresh are the bytes that come next: no two alike that are near each other.
func (l *line) fresh(n int) []byte {
	b := make([]byte, n)
	for i := range b {
		b[i] = byte((l.next + i) * 7)
	}
	return b
}

// step makes a call with the pipe as it is, which goes on as the answer says.
func (l *line) step(t *testing.T, c call) {
	c.p = l.p
	if c.name == "Write" {
		c.b = l.fresh(c.n)
	}
	a := wantRight(t, c)
	if a.no != 0 || c.name == "Check" {
		return
	}
	l.in = append(l.in, c.b[:a.n]...)
	l.next += a.n
	l.out = append(l.out, a.b...)
	if a.p.Readers == 0 && (c.name == "Open" || c.name == "Close") {
		// What is in it is read by nobody: it counts as read.
		l.out = append(l.out, l.p.Bytes...)
	}
	l.p = a.p
}

// wantWhole: what was written is what was read and what is there still, in order, each byte once.
func (l *line) wantWhole(t *testing.T) {
	if !bytes.Equal(l.in, append(l.out[:len(l.out):len(l.out)], l.p.Bytes...)) {
		t.Fatalf("%s was written, %s read, and there is %s", short(l.in), short(l.out), told(l.p))
	}
}

// begun is a pipe in use, in which are so many bytes.
func begun(many, readers, writers int) *line {
	l := &line{p: pipe.Pipe{Readers: readers, Writers: writers}}
	l.p.Bytes = l.fresh(many)
	l.in, l.next = l.fresh(many), many
	return l
}

// steps are calls for runs; the pipe and the bytes come from the run.
var steps = []call{
	{name: "Check"},
	{name: "Read", n: 0}, {name: "Read", n: 1}, {name: "Read", n: 63}, {name: "Read", n: 64}, {name: "Read", n: -1},
	{name: "Write", n: 0}, {name: "Write", n: 1}, {name: "Write", n: 62}, {name: "Write", n: 64}, {name: "Write", n: 65},
	{name: "Open"}, {name: "Open", write: true}, {name: "Close"}, {name: "Close", write: true},
}

// every makes each run of so many steps more.
func every(t *testing.T, l line, many int) {
	l.wantWhole(t)
	if many == 0 {
		return
	}
	for _, c := range steps {
		next := l
		next.in, next.out = l.in[:len(l.in):len(l.in)], l.out[:len(l.out):len(l.out)]
		next.step(t, c)
		every(t, next, many-1)
	}
}

func TestEveryShortRun(t *testing.T) {
	for _, l := range []*line{begun(0, 0, 0), begun(0, 1, 1), begun(63, 1, 1), begun(64, 1, 0), begun(2, 2, 2), begun(1, most, most-1)} {
		every(t, *l, 4)
	}
}

// through sends a text through a pipe in pieces: as many are read as fit, one behind the other.
func through(t *testing.T, text string, toWrite, toRead func() int) {
	p := with("", 1, 1)
	ahead := []byte(text)
	var out []byte
	for len(ahead) > 0 || len(p.Bytes) > 0 {
		n, next, err := pipe.Write(p, ahead[:min(toWrite(), len(ahead))])
		if err == nil {
			ahead, p = ahead[n:], next
		} else if number(err) != 11 || len(p.Bytes) < 64 {
			t.Fatalf("Write: %v", err)
		}
		b, next, err := pipe.Read(p, toRead())
		if err == nil {
			out, p = append(out, b...), next
		} else if number(err) != 11 || len(p.Bytes) > 0 {
			t.Fatalf("Read: %v", err)
		}
		if !bytes.Equal(out, []byte(text)[:len(out)]) {
			t.Fatalf("%s was read of %s", short(out), short([]byte(text)))
		}
	}
	if string(out) != text {
		t.Fatalf("%s was read of %s", short(out), short([]byte(text)))
	}
}

func always(n int) func() int { return func() int { return n } }

// A text goes through a pipe in pieces of any size.
func TestPP4Pieces(t *testing.T) {
	text := counted(300)
	for w := 1; w <= 70; w++ {
		for r := 1; r <= 70; r++ {
			through(t, text, always(w), always(r))
		}
	}
	for seed := range 300 {
		number := numbers(uint64(seed))
		through(t, counted(2000), func() int { return number(80) }, func() int { return number(80) })
	}
}

// All bytes that there are go through, in order.
func TestPP4EveryByte(t *testing.T) {
	b := make([]byte, 512)
	for i := range b {
		b[i] = byte(i)
	}
	for n := 1; n <= 65; n++ {
		through(t, string(b), always(n), always(n))
	}
}

// What a writer has left is read after it went, and then nothing, without an error.
func TestPP4AfterTheWriter(t *testing.T) {
	for many := range 65 {
		for n := 1; n <= 65; n++ {
			l := begun(many, 1, 1)
			l.step(t, call{name: "Close", write: true})
			for range many/n + 2 {
				l.step(t, call{name: "Read", n: n})
			}
			if !bytes.Equal(l.out, l.in) || len(l.out) != many {
				t.Fatalf("of %d bytes, %s were read, %d at a time", many, short(l.out), n)
			}
			wantRows(t, []row{{read(l.p, n), taken("", with("", 1, 0))}})
		}
	}
}

// Long runs: pieces of any size, readers and writers that come and go.
func TestLongRuns(t *testing.T) {
	for seed := range 400 {
		number := numbers(uint64(seed) + 1000)
		l := begun(number(65), number(3), number(3))
		top := []int{3, 20, 66, 130}[seed%4]
		for range 500 {
			c := steps[number(len(steps))]
			if number(4) > 0 {
				c = []call{{name: "Read"}, {name: "Write"}}[number(2)]
				c.n = number(top)
			}
			l.step(t, c)
			l.wantWhole(t)
		}
	}
}
