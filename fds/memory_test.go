package fds_test

import (
	"slices"
	"sync"
	"testing"

	"halter/fds"
)

// everyCall is each function, with each way in which descriptors are free and taken, and with tables that are not valid.
func everyCall() []call {
	var l []call
	for bits := range 256 {
		l = append(l, asked(pattern(bits))...)
	}
	for place := range 8 {
		l = append(l, asked(set(full, place, 33))...)
		l = append(l, asked(set(none, place, -1))...)
	}
	return l
}

// No argument is changed: neither the table, nor another one that is the same.
func TestArgumentsStay(t *testing.T) {
	for _, c := range everyCall() {
		given, other := c.t, c.t
		want := c.t.Slots
		switch c.name {
		case "Check":
			fds.Check(given)
		case "Put":
			fds.Put(given, c.n)
		case "At":
			fds.At(given, c.n)
		case "Drop":
			fds.Drop(given, c.n)
		case "Dup":
			fds.Dup(given, c.n)
		case "Files":
			fds.Files(given)
		case "Free":
			fds.Free(given)
		}
		if given.Slots != want || other.Slots != want {
			t.Fatalf("%v: the table is %v now, and another one %v", c, given, other)
		}
	}
}

// What is answered stays, whatever is called afterwards.
func TestAnswersStay(t *testing.T) {
	calls := everyCall()
	answers := make([]answer, len(calls))
	for i, c := range calls {
		answers[i], _ = c.ask()
	}
	for i, c := range slices.Backward(calls) {
		c.ask()
		if want := c.slow(); !answers[i].is(want) {
			t.Fatalf("%v: %v in the end, want %v", c, answers[i], want)
		}
	}
}

// No two lists share anything, their spare room neither: not two answers to the same call.
func TestListsAreTheirOwn(t *testing.T) {
	for bits := range 256 {
		k := pattern(bits)
		one, two := fds.Files(k), fds.Files(k)
		want := files(k).slow().l
		scribble(one[:cap(one)])
		three := fds.Files(k)
		if !slices.Equal(two, want) || !slices.Equal(three, want) {
			t.Fatalf("Files(%v): %v and %v when another answer is written over, want %v", k, two, three, want)
		}
		_, _ = append(two, -5), append(three, -6)
		if four := fds.Files(k); !slices.Equal(four, want) {
			t.Fatalf("Files(%v): %v when others went on, want %v", k, four, want)
		}
	}
}

// A table that was answered is written over: neither the one that was given nor the next answer is another one then.
func TestTablesAreTheirOwn(t *testing.T) {
	for bits := range 255 {
		k := pattern(bits)
		_, one, _ := fds.Put(k, 7)
		scribble(one.Slots[:])
		fd, two, err := fds.Put(k, 7)
		if k != pattern(bits) || err != nil || two != set(k, fd, 8) {
			t.Fatalf("Put(%v, 7): %d, %v, %v when another answer is written over", k, fd, two, err)
		}
	}
}

// A table goes on in two ways, and neither of them knows of the other.
func TestTwoWays(t *testing.T) {
	k := with(6, 0, 7)
	_, one, _ := fds.Put(k, 10)
	_, two, _ := fds.Put(k, 20)
	_, three, _ := fds.Drop(one, 0)
	_, four, _ := fds.Dup(two, 2)
	for _, r := range []struct{ got, want fds.Table }{
		{k, with(6, 0, 7)}, {one, with(6, 11, 7)}, {two, with(6, 21, 7)}, {three, with(0, 11, 7)}, {four, with(6, 21, 7, 7)},
	} {
		if r.got != r.want {
			t.Errorf("%v, want %v", r.got, r.want)
		}
	}
}

// The same calls have the same answers, whatever was called in between.
func TestAgain(t *testing.T) {
	calls := everyCall()
	for range 2 {
		for _, c := range calls {
			wantRight(t, c)
		}
		slices.Reverse(calls)
	}
}

// Calls that are made at the same time know nothing of each other.
func TestAtTheSameTime(t *testing.T) {
	var all sync.WaitGroup
	for n := range 4 {
		all.Go(func() {
			calls := everyCall()
			if n%2 > 0 {
				slices.Reverse(calls)
			}
			for _, c := range calls {
				if got, _ := c.ask(); !got.is(c.slow()) {
					t.Errorf("%v: %v, want %v", c, got, c.slow())
					return
				}
			}
		})
	}
	all.Wait()
}
