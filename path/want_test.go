package path_test

import (
	"errors"
	"slices"
	"strings"
	"testing"

	"halter/api"
	"halter/path"
)

// sizes are bytes of a name: each one about the limit, and some that are a small one modulo 2^8 or 2^16.
var sizes = []int{0, 1, 2, 3, 7, 8, 9, 14, 15, 16, 17, 18, 19, 31, 32, 33, 64, 127, 128, 255, 256, 257, 272, 273, 4096, 1 << 16, 1<<16 + 1, 1<<16 + 16}

// with is a text that has another byte in one place.
func with(s string, place int, b byte) string {
	return s[:place] + string([]byte{b}) + s[place+1:]
}

// short is a text of which there is no more than can be read.
func short(s string) string {
	if len(s) > 200 {
		return s[:200] + ".."
	}
	return s
}

// isError tells whether an error has that number; 0: it is none.
func isError(err error, no int) bool {
	var found api.Errno
	if err == nil {
		return no == 0
	}
	return errors.As(err, &found) && found == api.Errno(no) && no != 0
}

func wantCheck(t *testing.T, name string, no int) {
	t.Helper()
	if err := path.Check(name); !isError(err, no) {
		t.Errorf("Check(%q): error %v, want %d", short(name), err, no)
	}
}

func wantSplit(t *testing.T, p string, names []string, root bool, no int) {
	t.Helper()
	l, fromRoot, err := path.Split(p)
	if !slices.Equal(l, names) || fromRoot != root || !isError(err, no) {
		t.Errorf("Split(%q): %q, %v, %v, want %q, %v, %d", short(p), l, fromRoot, err, names, root, no)
	}
}

func wantJoin(t *testing.T, l []string, p string, no int) {
	t.Helper()
	if got, err := path.Join(l); got != p || !isError(err, no) {
		t.Errorf("Join(%q) of %d names: %q, %v, want %q, %d", l[:min(len(l), 10)], len(l), got, err, p, no)
	}
}

func wantLast(t *testing.T, p, name, ahead string, no int) {
	t.Helper()
	n, a, err := path.Last(p)
	if n != name || a != ahead || !isError(err, no) {
		t.Errorf("Last(%q): %q, %q, %v, want %q, %q, %d", short(p), n, a, err, name, ahead, no)
	}
	if err == nil && a+n != strings.TrimRight(p, "/") {
		t.Errorf("Last(%q): %q and %q are not the path up to the slashes behind it", short(p), a, n)
	}
}

// wantNames are the names of a path.
func wantNames(t *testing.T, p string) []string {
	t.Helper()
	l, _, err := path.Split(p)
	if err != nil {
		t.Fatalf("Split(%q): error %v", short(p), err)
	}
	return l
}

// wantJoined is the path of names.
func wantJoined(t *testing.T, l []string) string {
	t.Helper()
	p, err := path.Join(l)
	if err != nil {
		t.Fatalf("Join(%q): error %v", l, err)
	}
	return p
}
