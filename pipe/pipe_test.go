package pipe_test

import (
	"strings"
	"testing"

	"halter/pipe"
)

func TestPP1Check(t *testing.T) {
	ok := answer{}
	wantRows(t, []row{
		{check(none), ok},
		{check(with("", 1, 1)), ok},
		{check(with("a", 0, 0)), ok},
		{check(with(counted(63), 1, 1)), ok},
		{check(with(counted(64), 1, 1)), ok},
		{check(with(counted(64), most, most)), ok},
		{check(with(counted(64), 0, 0)), ok},
		{check(with(counted(65), 1, 1)), bad(22)},
		{check(with(counted(65), 0, 0)), bad(22)},
		{check(with("", most, 0)), ok},
		{check(with("", 0, most)), ok},
		{check(with("", most+1, 0)), bad(22)},
		{check(with("", 0, most+1)), bad(22)},
		{check(with("", most-1, most-1)), ok},
		{check(with("", -1, 0)), bad(22)},
		{check(with("", 0, -1)), bad(22)},
		{check(with("", -1, -1)), bad(22)},
		{check(with("", -1, most+1)), bad(22)},
		{check(with("", most+1, -1)), bad(22)},
		{check(with("", most+1, most+1)), bad(22)},
		{check(with(counted(65), -1, most+1)), bad(22)},
	})
}

// Each number of bytes about the limit and far behind it, and each number of readers and writers, with good ones and bad ones.
func TestPP1CheckAll(t *testing.T) {
	for n := range 300 {
		no := 0
		if n > 64 {
			no = 22
		}
		for _, many := range goodNumbers {
			wantRows(t, []row{{check(with(counted(n), many, 1)), bad(no)}, {check(with(counted(n), 1, many)), bad(no)}})
		}
	}
	for _, n := range badSizes {
		wantRows(t, []row{{check(with(counted(n), 1, 1)), bad(22)}})
	}
	for _, many := range badNumbers {
		for _, other := range append(goodNumbers, badNumbers...) {
			for _, n := range []int{0, 1, 64, 65} {
				wantRows(t, []row{{check(with(counted(n), many, other)), bad(22)}, {check(with(counted(n), other, many)), bad(22)}})
			}
		}
	}
}

func TestPP1Read(t *testing.T) {
	p := with("abc", 2, 3)
	full := with(counted(64), 1, 1)
	wantRows(t, []row{
		{read(p, 0), taken("", p)},
		{read(p, 1), taken("a", with("bc", 2, 3))},
		{read(p, 2), taken("ab", with("c", 2, 3))},
		{read(p, 3), taken("abc", with("", 2, 3))},
		{read(p, 4), taken("abc", with("", 2, 3))},
		{read(p, 64), taken("abc", with("", 2, 3))},
		{read(p, 65), taken("abc", with("", 2, 3))},
		{read(p, 1<<62), taken("abc", with("", 2, 3))},
		{read(p, 1<<63-1), taken("abc", with("", 2, 3))},
		{read(p, -1), bad(22)},
		{read(p, -1<<63), bad(22)},
		{read(full, 0), taken("", full)},
		{read(full, 1), taken("\x00", with(counted(64)[1:], 1, 1))},
		{read(full, 63), taken(counted(63), with(counted(64)[63:], 1, 1))},
		{read(full, 64), taken(counted(64), with("", 1, 1))},
		{read(full, 65), taken(counted(64), with("", 1, 1))},
		{read(full, 1<<32), taken(counted(64), with("", 1, 1))},
		{read(full, 1<<32+1), taken(counted(64), with("", 1, 1))},
		{read(with("a", 1, 1), 1), taken("a", with("", 1, 1))},
		{read(with("\x00\xff\x00", 1, 1), 2), taken("\x00\xff", with("\x00", 1, 1))},
		// Who reads needs no reader.
		{read(with("abc", 0, 1), 2), taken("ab", with("c", 0, 1))},
		{read(with("abc", 0, 0), 2), taken("ab", with("c", 0, 0))},
		{read(with("abc", most, most), 2), taken("ab", with("c", most, most))},
	})
}

func TestPP1ReadOfNothing(t *testing.T) {
	wantRows(t, []row{
		{read(with("", 1, 1), 0), taken("", with("", 1, 1))},
		{read(with("", 1, 1), 1), bad(11)},
		{read(with("", 1, 1), 64), bad(11)},
		{read(with("", 1, most), 65), bad(11)},
		{read(with("", 0, 1), 1), bad(11)},
		{read(with("", 0, 1), 0), taken("", with("", 0, 1))},
		{read(with("", 1, 1), 1<<63-1), bad(11)},
		{read(with("", 1, 0), 0), taken("", with("", 1, 0))},
		{read(with("", 1, 0), 1), taken("", with("", 1, 0))},
		{read(with("", most, 0), 64), taken("", with("", most, 0))},
		{read(with("", 0, 0), 65), taken("", none)},
		{read(none, 1<<63-1), taken("", none)},
		{read(none, 0), taken("", none)},
		{read(with("", 1, 0), -1), bad(22)},
		// There are bytes: whether somebody writes is all the same.
		{read(with("a", 1, 0), 1), taken("a", with("", 1, 0))},
		{read(with("a", 1, 0), 2), taken("a", with("", 1, 0))},
		{read(with("ab", 1, 0), 1), taken("a", with("b", 1, 0))},
	})
}

// Each number of bytes in a pipe, and each one to be read, with writers and without.
func TestPP1ReadAll(t *testing.T) {
	for many := range 65 {
		for n := range 70 {
			for _, writers := range []int{0, 1, 2, most} {
				wantRight(t, read(with(counted(many), 1, writers), n))
				wantRight(t, read(with(counted(many), 0, writers), n))
			}
		}
	}
}

func TestPP2Write(t *testing.T) {
	wantRows(t, []row{
		{write(with("", 1, 1), "abc"), laid(3, with("abc", 1, 1))},
		{write(with("", 1, 1), ""), laid(0, with("", 1, 1))},
		{write(with("", 1, 1), "a"), laid(1, with("a", 1, 1))},
		{write(with("abc", 2, 3), "de"), laid(2, with("abcde", 2, 3))},
		{write(with("abc", 2, 3), ""), laid(0, with("abc", 2, 3))},
		{write(with("\x00\xff", 2, 3), "\xff\x00"), laid(2, with("\x00\xff\xff\x00", 2, 3))},
		// Who writes needs no writer.
		{write(with("abc", 1, 0), "d"), laid(1, with("abcd", 1, 0))},
		{write(with("abc", most, most), "d"), laid(1, with("abcd", most, most))},
		{write(with("", 1, 1), counted(63)), laid(63, with(counted(63), 1, 1))},
		{write(with("", 1, 1), counted(64)), laid(64, with(counted(64), 1, 1))},
		{write(with("", 1, 1), counted(65)), laid(64, with(counted(64), 1, 1))},
		{write(with("", 1, 1), counted(66)), laid(64, with(counted(64), 1, 1))},
		{write(with("", 1, 1), counted(4096)), laid(64, with(counted(64), 1, 1))},
		{write(with("", 1, 1), counted(1<<20)), laid(64, with(counted(64), 1, 1))},
		{write(with("x", 1, 1), counted(63)), laid(63, with("x"+counted(63), 1, 1))},
		{write(with("x", 1, 1), counted(64)), laid(63, with("x"+counted(63), 1, 1))},
		{write(with(counted(62), 1, 1), "a"), laid(1, with(counted(62)+"a", 1, 1))},
		{write(with(counted(62), 1, 1), "ab"), laid(2, with(counted(62)+"ab", 1, 1))},
		{write(with(counted(62), 1, 1), "abc"), laid(2, with(counted(62)+"ab", 1, 1))},
		{write(with(counted(63), 1, 1), ""), laid(0, with(counted(63), 1, 1))},
		{write(with(counted(63), 1, 1), "a"), laid(1, with(counted(63)+"a", 1, 1))},
		{write(with(counted(63), 1, 1), "ab"), laid(1, with(counted(63)+"a", 1, 1))},
		{write(with(counted(63), 1, 1), counted(256)), laid(1, with(counted(63)+"\x00", 1, 1))},
	})
}

func TestPP2WriteIntoFull(t *testing.T) {
	full := with(counted(64), 1, 1)
	wantRows(t, []row{
		{write(full, ""), laid(0, full)},
		{write(full, "a"), bad(11)},
		{write(full, counted(64)), bad(11)},
		{write(full, counted(65)), bad(11)},
		{write(with(counted(64), 1, 0), ""), laid(0, with(counted(64), 1, 0))},
		{write(with(counted(64), most, 0), "a"), bad(11)},
	})
}

func TestPP2WriteWithoutReaders(t *testing.T) {
	wantRows(t, []row{
		{write(none, "a"), bad(32)},
		{write(none, ""), bad(32)},
		{write(with("", 0, 1), "a"), bad(32)},
		{write(with("", 0, 1), ""), bad(32)},
		{write(with("abc", 0, most), "d"), bad(32)},
		{write(with("abc", 0, 1), ""), bad(32)},
		{write(with(counted(64), 0, 1), ""), bad(32)},
		{write(with(counted(64), 0, 1), "a"), bad(32)},
		{write(with(counted(63), 0, 1), "ab"), bad(32)},
	})
}

// Each number of bytes in a pipe, and each one to be written, with readers and without.
func TestPP2WriteAll(t *testing.T) {
	for many := range 65 {
		for n := range 70 {
			for _, readers := range []int{0, 1, 2, most} {
				wantRight(t, write(with(strings.Repeat("r", many), readers, 1), counted(n)))
				wantRight(t, write(with(strings.Repeat("r", many), readers, 0), counted(n)))
			}
		}
	}
}

func TestPP3Open(t *testing.T) {
	wantRows(t, []row{
		{open(none, false), left(with("", 1, 0))},
		{open(none, true), left(with("", 0, 1))},
		{open(with("abc", 2, 3), false), left(with("abc", 3, 3))},
		{open(with("abc", 2, 3), true), left(with("abc", 2, 4))},
		{open(with(counted(64), 1, 1), false), left(with(counted(64), 2, 1))},
		{open(with(counted(64), 1, 1), true), left(with(counted(64), 1, 2))},
		{open(with("abc", most-1, most-1), false), left(with("abc", most, most-1))},
		{open(with("abc", most-1, most-1), true), left(with("abc", most-1, most))},
		{open(with("abc", most, most-1), false), bad(22)},
		{open(with("abc", most, most-1), true), left(with("abc", most, most))},
		{open(with("abc", most-1, most), true), bad(22)},
		{open(with("abc", most-1, most), false), left(with("abc", most, most))},
		{open(with("abc", most, most), false), bad(22)},
		{open(with("abc", most, most), true), bad(22)},
		{open(with("", most, 0), false), bad(22)},
		{open(with("", 0, most), true), bad(22)},
	})
}

func TestPP3Close(t *testing.T) {
	wantRows(t, []row{
		{closing(none, false), bad(22)},
		{closing(none, true), bad(22)},
		{closing(with("", 1, 0), true), bad(22)},
		{closing(with("", 0, 1), false), bad(22)},
		{closing(with("abc", 1, 0), true), bad(22)},
		{closing(with("abc", 0, 1), false), bad(22)},
		{closing(with("abc", 2, 3), false), left(with("abc", 1, 3))},
		{closing(with("abc", 2, 3), true), left(with("abc", 2, 2))},
		{closing(with("abc", 2, 1), true), left(with("abc", 2, 0))},
		{closing(with("abc", 2, 0), false), left(with("abc", 1, 0))},
		{closing(with("", 1, 1), false), left(with("", 0, 1))},
		{closing(with("", 1, 1), true), left(with("", 1, 0))},
		{closing(with("", 1, 0), false), left(none)},
		{closing(with("", 0, 1), true), left(none)},
		{closing(with("abc", most, most), false), left(with("abc", most-1, most))},
		{closing(with("abc", most, most), true), left(with("abc", most, most-1))},
	})
}

// A pipe without readers has no bytes behind these calls, whoever came or went.
func TestPP3WithoutReaders(t *testing.T) {
	wantRows(t, []row{
		{closing(with("abc", 1, 0), false), left(none)},
		{closing(with("abc", 1, 1), false), left(with("", 0, 1))},
		{closing(with("abc", 1, most), false), left(with("", 0, most))},
		{closing(with(counted(64), 1, 2), false), left(with("", 0, 2))},
		{closing(with("abc", 1, 1), true), left(with("abc", 1, 0))},
		{closing(with("abc", 0, 1), true), left(none)},
		{closing(with("abc", 0, 2), true), left(with("", 0, 1))},
		{open(with("abc", 0, 0), true), left(with("", 0, 1))},
		{open(with(counted(64), 0, 5), true), left(with("", 0, 6))},
		{open(with("abc", 0, most-1), true), left(with("", 0, most))},
		// There is one now.
		{open(with("abc", 0, 0), false), left(with("abc", 1, 0))},
		{open(with(counted(64), 0, 5), false), left(with(counted(64), 1, 5))},
	})
}

// Every number of readers and writers near the limits and far from them, with every number of bytes.
func TestPP3All(t *testing.T) {
	for n := range 65 {
		for _, readers := range goodNumbers {
			for _, writers := range goodNumbers {
				p := with(counted(n), readers, writers)
				for _, write := range []bool{false, true} {
					wantRight(t, open(p, write))
					wantRight(t, closing(p, write))
				}
			}
		}
	}
}

// A pipe is opened as often as it can be, and closed as often; the bytes stay till the last reader goes.
func TestPP3AllTheWay(t *testing.T) {
	for _, write := range []bool{false, true} {
		p := with("abc", 1, 1)
		number := &p.Readers
		if write {
			number = &p.Writers
		}
		for many := 2; many <= most; many++ {
			if p = opened(t, p, write); *number != many || p.Readers+p.Writers != many+1 || string(p.Bytes) != "abc" {
				t.Fatalf("Open(%v): %s, want %d", write, told(p), many)
			}
		}
		wantRows(t, []row{{open(p, write), bad(22)}})
		for many := most - 1; many > 0; many-- {
			if p = closed(t, p, write); *number != many || p.Readers+p.Writers != many+1 || string(p.Bytes) != "abc" {
				t.Fatalf("Close(%v): %s, want %d", write, told(p), many)
			}
		}
		p = closed(t, p, write)
		if gone := len(p.Bytes) == 0; *number != 0 || gone == write {
			t.Fatalf("Close(%v) of the last one: %s", write, told(p))
		}
		wantRows(t, []row{{closing(p, write), bad(22)}})
	}
}

func opened(t *testing.T, p pipe.Pipe, write bool) pipe.Pipe {
	q, err := pipe.Open(p, write)
	if err != nil {
		t.Fatalf("Open(%s, %v): %v", told(p), write, err)
	}
	return q
}

func closed(t *testing.T, p pipe.Pipe, write bool) pipe.Pipe {
	q, err := pipe.Close(p, write)
	if err != nil {
		t.Fatalf("Close(%s, %v): %v", told(p), write, err)
	}
	return q
}

// The chapter's example, and how it goes on.
func TestExample(t *testing.T) {
	wantRows(t, []row{
		{write(with("", 1, 0), "abc"), laid(3, with("abc", 1, 0))},
		{read(with("abc", 1, 0), 2), taken("ab", with("c", 1, 0))},
		{read(with("c", 1, 0), 2), taken("c", with("", 1, 0))},
		{read(with("", 1, 0), 2), taken("", with("", 1, 0))},
	})
}
