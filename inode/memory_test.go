package inode_test

import (
	"bytes"
	"slices"
	"testing"
	"unsafe"
)

// share tells whether two texts have a byte of memory in common.
func share(s, t string) bool {
	if s == "" || t == "" {
		return false
	}
	from, other := uintptr(unsafe.Pointer(unsafe.StringData(s))), uintptr(unsafe.Pointer(unsafe.StringData(t)))
	return from < other+uintptr(len(t)) && other < from+uintptr(len(s))
}

// changes are calls that change a tree whose root has the files a 2 and b 3.
var changes = []call{
	write(2, 0, "XYZ"), write(2, 3, "W"), write(2, 1, letter(0, 300)), write(2, 4095, "end"), write(3, 0, "of the other"), cut(2), write(2, 0, "again"), write(2, 100, "behind"),
	mk(1, "0", folder), mk(1, "z", folder), mk(1, "aa", folder), unlink(1, "0"), mk(1, "a0", file), unlink(1, "b"), hold(2), unlink(1, "a"), mk(1, "a", folder), write(2, 2, "nameless"), cut(2), drop(2), mk(1, "b", file), write(2, 0, "new"),
}

// Nothing that was answered changes later, nor by what is done to another answer.
func TestAnswersStay(t *testing.T) {
	for first := range changes {
		k := filed(t, letter(0, 50))
		for _, c := range changes[:first] {
			k.call(c)
		}
		var parts, same [][]byte
		var lists, alike [][]string
		for range 3 {
			for _, r := range []call{read(2, 0, 4096), read(2, 0, 2), read(2, 1, 40), read(3, 0, 9)} {
				b, _ := k.x.Read(r.id, r.off, r.n)
				parts, same = append(parts, b), append(same, slices.Clone(b))
			}
			l, _ := k.x.List(1)
			lists, alike = append(lists, l), append(alike, slices.Clone(l))
		}
		scribble(parts[0][:cap(parts[0])])
		scribble(parts[5][:cap(parts[5])])
		scribbleNames(lists[1][:cap(lists[1])])
		for n, b := range parts {
			if n != 0 && n != 5 && !bytes.Equal(b, same[n]) {
				t.Fatalf("bytes are %q when others are written over, were %q", b, same[n])
			}
		}
		k.alike("writing over what was answered")
		for _, c := range changes[first:] {
			k.call(c)
		}
		for n, b := range parts {
			if n != 0 && n != 5 && !bytes.Equal(b, same[n]) {
				t.Fatalf("bytes are %q now, were %q", b, same[n])
			}
		}
		for n, l := range lists {
			if n != 1 && !slices.Equal(l, alike[n]) {
				t.Fatalf("names are %q now, were %q", l, alike[n])
			}
		}
		for n, b := range [][]byte{parts[0], parts[5]} {
			if bytes.ContainsFunc(b, func(r rune) bool { return r != '?' }) {
				t.Fatalf("bytes %d that were written over are %q now", n, b)
			}
		}
	}
}

// Bytes of one answer lie in none of another, nor in what was written.
func TestBytesAreNew(t *testing.T) {
	k := filed(t, "")
	given := []byte(letter(0, 100))
	if n, err := k.x.Write(2, 0, given); n != 100 || err != nil {
		t.Fatalf("Write: %d, %v", n, err)
	}
	answers := [][]byte{given}
	for range 3 {
		for _, n := range []int{100, 1, 50, 4096} {
			b, err := k.x.Read(2, 0, n)
			if err != nil {
				t.Fatal(err)
			}
			answers = append(answers, b)
		}
	}
	for n, b := range answers {
		for _, other := range answers[:n] {
			if share(unsafe.String(unsafe.SliceData(b), cap(b)), unsafe.String(unsafe.SliceData(other), cap(other))) {
				t.Fatalf("answer %d lies in the memory of another one, or of the bytes that were given", n)
			}
		}
	}
}

// No name of an answer lies in a name that was given, nor in a name of another answer.
func TestNamesAreNew(t *testing.T) {
	k := grown(t, 9)
	var all []string
	whole := "abcdefghijklmnop"
	for n := range 8 {
		name := whole[n : n+1+n]
		if _, err := k.x.Make(1, name, n%2); err != nil {
			t.Fatal(err)
		}
	}
	all = append(all, whole)
	for range 3 {
		l, err := k.x.List(1)
		if err != nil || len(l) != 8 {
			t.Fatalf("List: %q, %v", l, err)
		}
		for _, name := range l {
			for _, other := range all {
				if share(name, other) {
					t.Fatalf("%q lies in the memory of %q", name, other)
				}
			}
			all = append(all, name)
		}
	}
}

// What was given can be written over behind each call, one that fails too.
func TestGivenIsNotKept(t *testing.T) {
	k := grown(t, 4)
	for range 2 {
		for _, name := range []string{"a", "b", "c", "a", "", "A", sixteen, seventeen, ".", ".."} {
			k.call(mk(1, name, folder)) // its bytes are written over
			k.call(find(1, name))
			k.call(walk(1, name, "..", name))
			k.alike("Make")
		}
		for _, name := range []string{"b", "a", "b", "c", ".", ""} {
			k.call(unlink(1, name))
			k.alike("Unlink")
		}
	}
}

// The same calls have the same answers in another tree, whatever was done in between.
func TestAgain(t *testing.T) {
	var before []answer
	for round := range 5 {
		k := filed(t, "some bytes")
		for n, c := range changes {
			got := k.call(c)
			if round == 0 {
				before = append(before, got)
			} else if !got.is(before[n]) {
				t.Fatalf("%v: %v, was %v before", c, got, before[n])
			}
		}
		k.alike("all calls")
	}
}
