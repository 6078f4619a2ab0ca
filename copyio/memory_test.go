package copyio_test

import (
	"bytes"
	"slices"
	"testing"

	"halter/copyio"
	"halter/space"
)

// spoil writes over bytes, and over their spare capacity.
func spoil(b []byte) {
	b = b[:cap(b)]
	for i := range b {
		b[i] = 255
	}
}

// What an answer becomes changes neither the memory nor another answer, and what the memory does later on changes no answer.
func TestAnswersAreNew(t *testing.T) {
	for _, r := range runs {
		k := made(t, 40, all).fill(t, r.from, r.to)
		same := k.same(t)
		one, err := copyio.In(k.s, r.at, r.n)
		if err != nil {
			t.Fatal(err)
		}
		two, err := copyio.In(k.s, r.at, r.n)
		if err != nil {
			t.Fatal(err)
		}
		spoil(two)
		if want := marks(r.at, r.n); !bytes.Equal(one, want) {
			t.Fatalf("In(%d, %d): %v, want %v", r.at, r.n, one, want)
		}
		same("writing over an answer")
		wantOut(t, "Out", k.s, r.at, some(r.n), r.n, 0)
		wantPoke(t, "Poke", k.s, r.at&^3, 0x11223344, 0)
		k.s.Free()
		if want := marks(r.at, r.n); !bytes.Equal(one, want) {
			t.Fatalf("In(%d, %d): %v, want %v", r.at, r.n, one, want)
		}
	}
}

// The answer of no bytes has no capacity in which anything else lies.
func TestNoBytesAreNew(t *testing.T) {
	k := made(t, 40, all).fill(t, 2, 4)
	same := k.same(t)
	b, err := copyio.In(k.s, at(2, 0), 0)
	if err != nil || len(b) != 0 {
		t.Fatalf("In of no bytes: %v, %v", b, err)
	}
	spoil(b)
	same("writing over an answer of no bytes")
}

// Bytes that are given are neither changed nor kept, nor is what lies before and behind them.
func TestBytesAreNotKept(t *testing.T) {
	for _, r := range runs {
		k := made(t, 40, all).fill(t, r.from, r.to)
		other := k.fork(t)
		for _, s := range []*space.Space{k.s, other} {
			whole := some(r.n + 700)
			given := whole[300 : 300+r.n]
			want := slices.Clone(given)
			if n, err := copyio.Out(s, r.at, given); n != r.n || err != nil {
				t.Fatalf("Out: %d, %v", n, err)
			}
			if !bytes.Equal(whole, some(r.n+700)) {
				t.Fatal("Out changes the bytes that it is given, or others beside them")
			}
			spoil(whole)
			wantIn(t, "In of what was stored", s, r.at, r.n, want, 0)
		}
	}
}

// Bytes that are given are not changed beside an error either.
func TestBytesAreNotChangedBesideAnError(t *testing.T) {
	for page := first; page < first+5; page++ {
		k := made(t, 40, without(page, 1)...)
		whole := some(2000)
		if n, err := copyio.Out(k.s, at(first, offset), whole[300:300+many]); n != before(page) || err == nil {
			t.Fatalf("Out: %d, %v", n, err)
		}
		if !bytes.Equal(whole, some(2000)) {
			t.Fatal("Out changes the bytes that it is given, or others beside them")
		}
	}
}

// A text that was read stays as it is, whatever becomes of the memory.
func TestTextsStay(t *testing.T) {
	k := made(t, 40, all)
	want := "/bin/" + string(some(700))
	k.put(t, at(2, 100), append([]byte(want), 0))
	got, err := copyio.Text(k.s, at(2, 100), 4096)
	if err != nil {
		t.Fatal(err)
	}
	wantOut(t, "Out", k.s, at(2, 100), bytes.Repeat([]byte("x"), 1000), 1000, 0)
	k.s.Free()
	if got != want {
		t.Fatalf("Text: %q, want %q", got, want)
	}
}

// The same calls have the same answers.
func TestAgain(t *testing.T) {
	k := made(t, 40, all).fill(t, 2, 6)
	same := k.same(t)
	for range 3 {
		wantIn(t, "In", k.s, at(2, 3), 900, marks(at(2, 3), 900), 0)
		wantOut(t, "Out", k.s, at(2, 3), marks(at(2, 3), 900), 900, 0)
		wantText(t, "Text", k.s, at(2, 3), 900, "", 36)
		wantPeek(t, "Peek", k.s, at(2, 1), 0, 5)
		wantPoke(t, "Poke", k.s, at(2, 1), 7, 5)
		same("the same calls")
	}
}
