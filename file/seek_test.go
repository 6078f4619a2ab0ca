package file_test

import (
	"fmt"
	"math"
	"testing"

	"halter/file"
)

// seek is a call of Seek.
type seek struct {
	f              file.File
	off, way, size int
}

func (s seek) String() string {
	return fmt.Sprintf("Seek(%s, %d, %d, %d)", told(s.f), s.off, s.way, s.size)
}

// do makes a call; the name that it is given must stay as it is.
func (s seek) do(t *testing.T) answer {
	f := s.f
	name, nameBytes := lent(s.f.Name)
	f.Name = name
	n, err := file.Seek(f, s.off, s.way, s.size)
	if string(nameBytes) != s.f.Name {
		t.Errorf("%v: the name that it was given is %q now", s, nameBytes)
	}
	return answer{n: n, no: number(err)}
}

// wantSeek holds a call against the slow one.
func wantSeek(t *testing.T, s seek) {
	if got, want := s.do(t), slowSeek(s.f, s.off, s.way, s.size); !got.is(want) {
		t.Helper()
		t.Fatalf("%v: %v, want %v", s, got, want)
	}
}

type seekRow struct {
	s    seek
	want answer
}

// wantSeeks holds calls, and the slow ones, against what is written by hand.
func wantSeeks(t *testing.T, rows []seekRow) {
	t.Helper()
	for _, r := range rows {
		if got := r.s.do(t); !got.is(r.want) {
			t.Errorf("%v: %v, want %v", r.s, got, r.want)
		}
		if got := slowSeek(r.s.f, r.s.off, r.s.way, r.s.size); !got.is(r.want) {
			t.Errorf("%v: the slow one says %v, want %v", r.s, got, r.want)
		}
	}
}

// at is a file that stands at an offset.
func at(off int) file.File { return file.File{Kind: file.Node, ID: 3, Off: off, Read: true, Refs: 1} }

// The chapter's example.
func TestExample(t *testing.T) {
	wantSeeks(t, []seekRow{{seek{file.File{}, -1, 2, 5}, num(4)}, {seek{at(3), -1, 2, 5}, num(4)}})
}

func TestFI2Ordinary(t *testing.T) {
	proc := file.File{Kind: file.Proc, ID: 7, Off: 30, Read: true, Name: "status", Refs: 2}
	wantSeeks(t, []seekRow{
		{seek{at(3), 0, 0, 10}, num(0)},
		{seek{at(3), 7, 0, 10}, num(7)},
		{seek{at(3), 100, 0, 10}, num(100)},
		{seek{at(3), -1, 0, 10}, bad(22)},
		{seek{at(3), 0, 1, 10}, num(3)},
		{seek{at(3), 7, 1, 10}, num(10)},
		{seek{at(3), 100, 1, 10}, num(103)},
		{seek{at(3), -1, 1, 10}, num(2)},
		{seek{at(3), -3, 1, 10}, num(0)},
		{seek{at(3), -4, 1, 10}, bad(22)},
		{seek{at(3), 0, 2, 10}, num(10)},
		{seek{at(3), 7, 2, 10}, num(17)},
		{seek{at(3), -1, 2, 10}, num(9)},
		{seek{at(3), -10, 2, 10}, num(0)},
		{seek{at(3), -11, 2, 10}, bad(22)},
		{seek{at(3), 5, 2, 0}, num(5)},
		{seek{proc, 5, 0, 0}, num(5)},
		{seek{proc, 5, 1, 0}, num(35)},
		{seek{proc, -30, 1, 0}, num(0)},
		{seek{proc, 0, 2, 0}, num(0)},
		{seek{proc, -31, 1, 0}, bad(22)},
	})
}

func TestFI2Edges(t *testing.T) {
	const top = mostNumber
	wantSeeks(t, []seekRow{
		{seek{at(0), top, 0, 0}, num(top)},
		{seek{at(0), top + 1, 0, 0}, bad(22)},
		{seek{at(top), top, 0, top}, num(top)},
		{seek{at(top), 0, 1, 0}, num(top)},
		{seek{at(top), 1, 1, 0}, bad(22)},
		{seek{at(top), -1, 1, 0}, num(top - 1)},
		{seek{at(top), -top, 1, 0}, num(0)},
		{seek{at(top), -top - 1, 1, 0}, bad(22)},
		{seek{at(top - 1), 1, 1, 0}, num(top)},
		{seek{at(top - 1), 2, 1, 0}, bad(22)},
		{seek{at(1), top, 1, 0}, bad(22)},
		{seek{at(1), top - 1, 1, 0}, num(top)},
		{seek{at(1), -1, 1, 0}, num(0)},
		{seek{at(1), -2, 1, 0}, bad(22)},
		{seek{at(0), 0, 2, top}, num(top)},
		{seek{at(0), 1, 2, top}, bad(22)},
		{seek{at(0), -top, 2, top}, num(0)},
		{seek{at(0), -top - 1, 2, top}, bad(22)},
		{seek{at(0), 1, 2, top - 1}, num(top)},
		{seek{at(0), top, 2, 0}, num(top)},
		{seek{at(0), top, 2, 1}, bad(22)},
		// Sizes and files that can't be, though the result could.
		{seek{at(0), 0, 0, -1}, bad(22)},
		{seek{at(0), 0, 0, top + 1}, bad(22)},
		{seek{at(0), 0, 1, -1}, bad(22)},
		{seek{at(0), 0, 1, top + 1}, bad(22)},
		{seek{at(0), 1, 2, -1}, bad(22)},
		{seek{at(0), -1, 2, top + 1}, bad(22)},
		{seek{at(-1), 0, 0, 0}, bad(22)},
		{seek{at(-1), 1, 1, 0}, bad(22)},
		{seek{at(-1), 0, 2, 0}, bad(22)},
		{seek{at(top + 1), 0, 0, 0}, bad(22)},
		{seek{at(top + 1), -1, 1, 0}, bad(22)},
		// Ways below and above.
		{seek{at(0), 0, -1, 0}, bad(22)},
		{seek{at(0), 0, 3, 0}, bad(22)},
		{seek{at(5), 5, -1, 5}, bad(22)},
		{seek{at(5), 5, 3, 5}, bad(22)},
		// Sums that would run over.
		{seek{at(0), math.MaxInt, 0, 0}, bad(22)},
		{seek{at(0), math.MinInt, 0, 0}, bad(22)},
		{seek{at(1), math.MaxInt, 1, 0}, bad(22)},
		{seek{at(top), math.MaxInt, 1, 0}, bad(22)},
		{seek{at(top), math.MaxInt - top, 1, 0}, bad(22)},
		{seek{at(top), math.MaxInt - top + 1, 1, 0}, bad(22)},
		{seek{at(top), math.MinInt, 1, 0}, bad(22)},
		{seek{at(0), math.MaxInt, 2, top}, bad(22)},
		{seek{at(0), math.MinInt, 2, top}, bad(22)},
		{seek{at(0), math.MinInt, 2, 1}, bad(22)},
		{seek{at(0), 1, 2, math.MaxInt}, bad(22)},
		{seek{at(math.MaxInt), math.MinInt, 1, 0}, bad(22)},
		{seek{at(math.MinInt), math.MinInt, 1, 0}, bad(22)},
		{seek{at(0), math.MinInt, 2, math.MinInt}, bad(22)},
		{seek{at(math.MinInt), math.MaxInt, 1, 0}, bad(22)},
	})
}

// wrongWays are none of the three.
var wrongWays = []int{math.MinInt, -1 << 32, math.MinInt32, -3, -2, -1, 3, 4, 255, 256, 257, 1 << 16, 1 << 32, 1<<32 + 1, math.MaxInt}

// Pipes can't be sought in: that comes ahead of all else that is wrong.
func TestFI2Pipes(t *testing.T) {
	files := append(notValid(), file.File{}, sample(0), at(5), at(mostNumber))
	for _, f := range files {
		for _, kind := range []int{file.In, file.Out} {
			f.Kind = kind
			for _, off := range []int{0, 1, -1, mostNumber, mostNumber + 1, math.MinInt, math.MaxInt} {
				for _, way := range []int{-1, 0, 1, 2, 3, math.MinInt, math.MaxInt} {
					for _, size := range []int{-1, 0, 1, mostNumber, mostNumber + 1} {
						s := seek{f, off, way, size}
						if got := s.do(t); !got.is(bad(29)) {
							t.Fatalf("%v: %v, want error 29", s, got)
						}
					}
				}
			}
		}
	}
}

func TestFI2NotValid(t *testing.T) {
	for _, f := range notValid() {
		if f.Kind == file.In || f.Kind == file.Out {
			continue
		}
		for _, off := range []int{0, 1, -1, mostNumber, math.MinInt, math.MaxInt} {
			for _, way := range []int{-1, 0, 1, 2, 3} {
				for _, size := range []int{-1, 0, 1, mostNumber} {
					s := seek{f, off, way, size}
					if got := s.do(t); !got.is(bad(22)) {
						t.Fatalf("%v: %v, want error 22", s, got)
					}
				}
			}
		}
	}
}

func TestFI2WrongWays(t *testing.T) {
	for _, way := range wrongWays {
		for _, off := range append(goodNumbers, badNumbers...) {
			for _, f := range []file.File{{}, at(5), at(mostNumber), sample(3)} {
				for _, size := range []int{0, 5, mostNumber} {
					s := seek{f, off, way, size}
					if got := s.do(t); !got.is(bad(22)) {
						t.Fatalf("%v: %v, want error 22", s, got)
					}
				}
			}
		}
	}
}

// All small numbers, with each other.
func TestFI2Small(t *testing.T) {
	for kind := -1; kind <= 4; kind++ {
		for stands := -2; stands <= 6; stands++ {
			for off := -8; off <= 8; off++ {
				for way := -2; way <= 4; way++ {
					for size := -2; size <= 6; size++ {
						wantSeek(t, seek{file.File{Kind: kind, Off: stands}, off, way, size})
					}
				}
			}
		}
	}
}

// All numbers about the limits, with each other, and with offsets that lead to the limits.
func TestFI2Limits(t *testing.T) {
	all := append(append([]int{}, goodNumbers...), badNumbers...)
	offs := append([]int{}, all...)
	for _, n := range goodNumbers {
		offs = append(offs, -n, -n-1, 1-n, mostNumber-n, mostNumber-n+1, mostNumber-n-1, math.MaxInt-n, math.MaxInt-n+1, math.MinInt+n)
	}
	for _, kind := range []int{0, 1, 3} {
		for _, stands := range all {
			for _, size := range all {
				for _, off := range offs {
					for way := range 3 {
						wantSeek(t, seek{file.File{Kind: kind, Off: stands, Name: "x"}, off, way, size})
					}
				}
			}
		}
	}
}

// The other parts of a valid file mean nothing to Seek.
func TestFI2OtherParts(t *testing.T) {
	for _, id := range goodNumbers {
		for _, name := range goodNames {
			for _, refs := range []int{math.MinInt, -1, 0, 1, mostRefs, mostRefs + 1, math.MaxInt} {
				for ways := range 4 {
					f := file.File{ID: id, Off: 40, Read: ways&1 > 0, Write: ways&2 > 0, Name: name, Refs: refs}
					wantSeeks(t, []seekRow{{seek{f, 2, 0, 50}, num(2)}, {seek{f, 2, 1, 50}, num(42)}, {seek{f, 2, 2, 50}, num(52)}, {seek{f, -41, 1, 50}, bad(22)}})
				}
			}
		}
	}
}
