package path_test

import (
	"slices"
	"strings"
	"testing"
	"unsafe"

	"halter/path"
)

// good are paths without an error; Last has none of them either.
var good = []string{"a", "/a", "a/", "/a//b/", "../b", "a/./b", "...", eight, "///" + eight + "///", sixteen + "/" + sixteen, strings.Repeat("/"+sixteen, 8)}

// full is all of a list's memory, its spare capacity too.
func full(l []string) []string { return l[:cap(l)] }

func scribble(l []string) {
	for n := range l {
		l[n] = "written over"
	}
}

// share tells whether two texts have a byte of memory in common.
func share(s, t string) bool {
	if s == "" || t == "" {
		return false
	}
	from, other := uintptr(unsafe.Pointer(unsafe.StringData(s))), uintptr(unsafe.Pointer(unsafe.StringData(t)))
	return from < other+uintptr(len(t)) && other < from+uintptr(len(s))
}

// No two lists of names share anything.
func TestListsAreNew(t *testing.T) {
	for _, p := range append(slices.Clone(good), "/", ".", "..") {
		one := wantNames(t, p)
		want := slices.Clone(one)
		two := wantNames(t, p)
		scribble(full(two))
		if !slices.Equal(one, want) {
			t.Errorf("Split(%q): %q when another answer is written over, want %q", p, one, want)
		}
		scribble(full(one))
		wantSplit(t, p, want, p[0] == '/', 0)
	}
}

// No text of an answer lies in what was given.
func TestTextsAreNew(t *testing.T) {
	for _, p := range good {
		l := wantNames(t, p)
		for _, name := range l {
			if share(name, p) {
				t.Errorf("Split(%q): %q lies in the path", p, name)
			}
		}
		name, ahead, err := path.Last(p)
		if err != nil {
			t.Fatalf("Last(%q): error %v", p, err)
		}
		if share(name, p) || share(ahead, p) || share(name, ahead) {
			t.Errorf("Last(%q): %q or %q lies in the path", p, name, ahead)
		}
		joined := wantJoined(t, l)
		for _, name := range l {
			if share(joined, name) {
				t.Errorf("Join(%q): the path lies in the names", l)
			}
		}
	}
}

// A path that stands in bytes which are written over afterwards: the answers stay.
func TestPathsAreNotKept(t *testing.T) {
	for _, p := range good {
		b := []byte(p)
		given := unsafe.String(&b[0], len(b))
		l, root, err := path.Split(given)
		if err != nil {
			t.Fatalf("Split(%q): error %v", p, err)
		}
		name, ahead, err := path.Last(given)
		if err != nil {
			t.Fatalf("Last(%q): error %v", p, err)
		}
		if string(b) != p {
			t.Fatalf("the path %q is %q afterwards", p, b)
		}
		for i := range b {
			b[i] = '?'
		}
		wantSplit(t, p, l, root, 0)
		wantLast(t, p, name, ahead, 0)
	}
}

// Names that are given are neither changed nor kept, nor is what lies ahead of them and behind them.
func TestNamesAreNotKept(t *testing.T) {
	for many := range 11 {
		for _, name := range []string{"a", "..", "", "A", "a/b", seventeen} {
			whole := slices.Repeat([]string{"beside"}, many+20)
			given := whole[10 : 10+many]
			for n := range given {
				given[n] = name
			}
			before := slices.Clone(whole)
			want, no := joined(given)
			p, err := path.Join(given)
			if !slices.Equal(whole, before) {
				t.Fatalf("Join changes the names that it is given, or others beside them: %q, were %q", whole, before)
			}
			scribble(whole)
			if p != want || !isError(err, no) {
				t.Fatalf("Join(%q): %q, %v when the names are written over, want %q, %d", before[10:10+many], p, err, want, no)
			}
		}
	}
}

// The same calls have the same answers, whatever was called in between.
func TestAgain(t *testing.T) {
	for range 3 {
		for _, p := range good {
			wantPath(t, p)
		}
		for _, r := range badPaths {
			wantPath(t, r.p)
			wantCheck(t, r.p, checked(r.p))
		}
		for _, l := range [][]string{nil, {"a"}, {""}, {"A"}, {seventeen}, make([]string, 9)} {
			p, no := joined(l)
			wantJoin(t, l, p, no)
		}
	}
}

// A nil list is as an empty one, with spare room or without it.
func TestNilIsEmpty(t *testing.T) {
	for _, l := range [][]string{nil, {}, make([]string, 0, 20), {"a", "b"}} {
		wantJoin(t, l[:0], "/", 0)
	}
}
