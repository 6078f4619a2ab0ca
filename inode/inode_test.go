package inode_test

import (
	"fmt"
	"math"
	"slices"
	"strings"
	"testing"

	"halter/inode"
)

const (
	file   = inode.File
	folder = inode.Folder
	root   = inode.Root
)

const (
	sixteen   = "abcdefgh.0_9-xyz"
	seventeen = "abcdefgh.0_9-xyz7"
)

func TestConstants(t *testing.T) {
	if file != 0 || folder != 1 || root != 1 {
		t.Errorf("File %d, Folder %d, Root %d, want 0, 1, 1", file, folder, root)
	}
}

// TestExample is the chapter's own.
func TestExample(t *testing.T) {
	for most := 2; most <= 64; most++ {
		grown(t, most).rows(row{mk(root, "a", file), num(2)})
		grown(t, most).rows(row{mk(root, "a", folder), num(2)})
	}
}

func TestIN1New(t *testing.T) {
	for most := 1; most <= 64; most++ {
		k := grown(t, most).rows(
			row{many(), num(1)},
			row{kind(1), num(1)},
			row{list(1), listed()},
			row{find(1, "."), num(1)},
			row{find(1, ".."), num(1)},
			row{drop(1), bad(22)},
		)
		for _, id := range strangers {
			k.rows(row{kind(id), bad(2)})
		}
	}
}

func TestIN1NewWrong(t *testing.T) {
	for _, most := range []int{math.MinInt, -1<<32 + 1, math.MinInt32, -65, -64, -2, -1, 0, 65, 66, 128, 257, 1<<16 + 1, math.MaxInt32, 1<<32 + 1, 1<<32 + 64, math.MaxInt} {
		if x, err := inode.New(most); x != nil || number(err) != 22 {
			t.Errorf("New(%d): %v, %v, want none, 22", most, x, err)
		}
	}
}

// New trees have nothing to do with each other.
func TestIN1NewTwice(t *testing.T) {
	one, other := grown(t, 5), grown(t, 5)
	one.rows(row{mk(1, "a", folder), num(2)}, row{mk(2, "b", file), num(3)}, row{hold(1), done})
	other.alike("what was done to another tree")
	other.rows(row{mk(1, "a", file), num(2)}, row{write(2, 0, "abc"), num(3)}, row{drop(1), bad(22)})
	one.alike("what was done to another tree")
}

// deep is a tree with room for so many: 1/a 2/b 3/c 4, and in 4 the files x 5 and y 6; in 2 the directory d 7.
func deep(t *testing.T, most int) *tree {
	t.Helper()
	return grown(t, most).ids(1, folder, 2, "a").ids(2, folder, 3, "b").ids(3, folder, 4, "c").ids(4, file, 5, "x", "y").ids(2, folder, 7, "d")
}

func TestIN1Find(t *testing.T) {
	deep(t, 7).rows(
		row{find(1, "a"), num(2)}, row{find(1, "."), num(1)}, row{find(1, ".."), num(1)},
		row{find(2, "b"), num(3)}, row{find(2, "."), num(2)}, row{find(2, ".."), num(1)},
		row{find(3, "c"), num(4)}, row{find(3, "."), num(3)}, row{find(3, ".."), num(2)},
		row{find(4, "x"), num(5)}, row{find(4, "."), num(4)}, row{find(4, ".."), num(3)},
		row{find(4, "y"), num(6)}, row{find(2, "d"), num(7)}, row{find(7, ".."), num(2)},
		// Another directory's name is none here.
		row{find(1, "b"), bad(2)}, row{find(1, "x"), bad(2)}, row{find(2, "a"), bad(2)}, row{find(4, "c"), bad(2)}, row{find(7, "d"), bad(2)},
		// A text that can't be a name is none that there is.
		row{find(1, ""), bad(2)}, row{find(1, "A"), bad(2)}, row{find(1, "a/"), bad(2)}, row{find(1, "/a"), bad(2)}, row{find(1, "a/b"), bad(2)}, row{find(1, "aa"), bad(2)}, row{find(1, "a\x00"), bad(2)},
		row{find(1, "/"), bad(2)}, row{find(1, "..."), bad(2)}, row{find(1, "./"), bad(2)}, row{find(1, "../"), bad(2)}, row{find(1, " "), bad(2)}, row{find(1, seventeen), bad(2)}, row{find(1, strings.Repeat("a", 1<<16)), bad(2)},
	)
}

// Names that begin alike, or are . or .. and more.
func TestIN1FindNamesAlike(t *testing.T) {
	names := []string{"...", "....", ".a", "..a", "a.", "a..", "a", "aa", "aaa", "-", "_", "0", "00", sixteen, sixteen[:15]}
	k := grown(t, 64).ids(1, file, 2, names...)
	for n, name := range names {
		k.rows(row{find(1, name), num(2 + n)}, row{walk(1, ".", name), num(2 + n)})
	}
	for n, name := range names {
		k.rows(row{unlink(1, name), done}, row{find(1, name), bad(2)}, row{many(), num(len(names) - n)})
	}
}

func TestIN1Walk(t *testing.T) {
	deep(t, 7).rows(
		row{walk(1), num(1)}, row{walk(2), num(2)}, row{walk(4), num(4)},
		row{walk(1, "."), num(1)}, row{walk(1, ".."), num(1)}, row{walk(1, "..", "..", ".", ".."), num(1)},
		row{walk(1, "a"), num(2)}, row{walk(1, "a", "b"), num(3)}, row{walk(1, "a", "b", "c"), num(4)}, row{walk(1, "a", "b", "c", "x"), num(5)}, row{walk(1, "a", "b", "c", "y"), num(6)},
		row{walk(2, "b", "c"), num(4)}, row{walk(4, "x"), num(5)}, row{walk(4, "..", "..", "d"), num(7)}, row{walk(7, "..", "b", ".", "c", ".", "y"), num(6)}, row{walk(4, "..", "..", "..", "..", "a"), num(2)},
		// The first error.
		row{walk(1, "b"), bad(2)}, row{walk(1, "a", "c"), bad(2)}, row{walk(1, "", "a"), bad(2)}, row{walk(1, "a", ""), bad(2)}, row{walk(1, "a", "b", "c", "z"), bad(2)},
		row{walk(4, "x", "."), bad(20)}, row{walk(4, "x", ".."), bad(20)}, row{walk(4, "x", "x"), bad(20)}, row{walk(4, "x", ""), bad(20)}, row{walk(4, "x", seventeen), bad(20)},
		row{walk(4, "x", "z", "a"), bad(20)}, row{walk(4, "z", "x", "a"), bad(2)}, row{walk(1, "a/b"), bad(2)}, row{walk(1, seventeen, "a"), bad(2)}, row{walk(4, "..", "c", "x", "..", "z"), bad(20)},
	)
}

// Names may be more than a path may have.
func TestIN1WalkLong(t *testing.T) {
	k := deep(t, 7)
	for _, times := range []int{1, 2, 3, 8, 9, 100, 3000} {
		round := slices.Repeat([]string{"a", ".", "b", "c", "..", "..", ".."}, times)
		k.rows(
			row{walk(1, round...), num(1)},
			row{walk(1, append(round, "a", "b", "c", "x")...), num(5)},
			row{walk(1, append(round, "b")...), bad(2)},
			row{walk(1, append(round, "a", "b", "c", "x", "..")...), bad(20)},
			row{walk(7, slices.Repeat([]string{".."}, times)...), num(max(1, 3-times))},
			row{walk(7, slices.Repeat([]string{"."}, times)...), num(7)},
		)
	}
}

// A directory that has no name any more, but is held.
func TestIN1Nameless(t *testing.T) {
	k := deep(t, 20).rows(
		row{hold(7), done},
		row{unlink(2, "d"), done},
		row{many(), num(7)},
		row{kind(7), num(1)},
		row{list(7), listed()},
		row{find(7, "."), num(7)}, row{find(7, ".."), num(2)}, row{walk(7), num(7)},
		row{walk(7, ".."), num(2)}, row{walk(7, "..", "b", "c", "x"), num(5)}, row{walk(7, "..", "d"), bad(2)},
		row{find(7, "x"), bad(2)},
	)
	k.rows(row{drop(7), done}, row{many(), num(6)}, row{find(7, "."), bad(2)}, row{find(7, ".."), bad(2)}, row{walk(7), bad(2)}, row{list(7), bad(2)}, row{kind(7), bad(2)})
}

// orphan is a tree in which directory 3 is held and has no name any more, as directory 2, in which it was made, has gone.
func orphan(t *testing.T, most int) *tree {
	t.Helper()
	return grown(t, most).ids(1, folder, 2, "a").ids(2, folder, 3, "b").rows(
		row{hold(3), done},
		row{unlink(2, "b"), done},
		row{unlink(1, "a"), done},
		row{many(), num(2)},
		row{kind(2), bad(2)},
	)
}

func TestIN1ParentGone(t *testing.T) {
	orphan(t, 3).rows(
		row{find(3, "."), num(3)}, row{find(3, ".."), num(2)}, row{walk(3, ".."), num(2)}, row{walk(3, ".", ".."), num(2)},
		row{find(2, "."), bad(2)}, row{find(2, ".."), bad(2)},
		row{walk(3, "..", "."), bad(2)}, row{walk(3, "..", ".."), bad(2)}, row{walk(3, "..", "b"), bad(2)},
		row{mk(3, "x", file), bad(2)},
		row{drop(3), done}, row{many(), num(1)}, row{find(3, ".."), bad(2)},
	)
}

// Another node has the parent's number now.
func TestIN1ParentsNumber(t *testing.T) {
	orphan(t, 4).rows(
		row{mk(1, "other", folder), num(2)}, row{mk(2, "x", file), num(4)},
		row{find(3, ".."), num(2)}, row{walk(3, "..", ".."), num(1)}, row{walk(3, "..", "x"), num(4)}, row{walk(3, "..", "b"), bad(2)},
		row{unlink(2, "x"), done}, row{unlink(1, "other"), done}, row{find(3, ".."), num(2)}, row{walk(3, "..", "."), bad(2)},
	).release("a directory")
	orphan(t, 4).rows(
		row{mk(1, "other", file), num(2)},
		row{find(3, ".."), num(2)}, row{walk(3, ".."), num(2)}, row{walk(3, "..", "."), bad(20)}, row{walk(3, "..", ".."), bad(20)},
	).release("a file")
	// The number of a directory in another one, with the old name.
	orphan(t, 6).rows(
		row{mk(1, "c", file), num(2)}, row{mk(1, "d", folder), num(4)}, row{unlink(1, "c"), done}, row{mk(4, "a", folder), num(2)}, row{mk(2, "b", folder), num(5)},
		row{find(3, ".."), num(2)}, row{walk(3, "..", ".."), num(4)}, row{walk(3, "..", "b"), num(5)}, row{walk(3, "..", "..", "..", ".."), num(1)},
	).release("a directory in another one")
}

// A whole line of directories that are held goes, from its end on.
func TestIN1LineGone(t *testing.T) {
	grown(t, 5).ids(1, folder, 2, "a").ids(2, folder, 3, "a").ids(3, folder, 4, "a").ids(4, folder, 5, "a").rows(
		row{hold(5), done}, row{hold(4), done}, row{hold(3), done},
		row{unlink(4, "a"), done}, row{unlink(3, "a"), done}, row{unlink(2, "a"), done}, row{unlink(1, "a"), done},
		row{many(), num(4)},
		row{walk(5, "..", "..", ".."), num(2)}, row{walk(5, "..", "..", "..", ".."), bad(2)},
		row{drop(4), done}, row{find(5, ".."), num(4)}, row{walk(5, "..", ".."), bad(2)},
		row{mk(1, "b", folder), num(2)}, row{walk(3, "..", ".."), num(1)}, row{mk(2, "b", file), num(4)}, row{walk(5, ".."), num(4)}, row{walk(5, "..", ".."), bad(20)},
	).release("a line of directories")
}

// places calls with each order of some names.
func places(l []string, from int, do func(l []string)) {
	if from == len(l) {
		do(l)
	}
	for n := from; n < len(l); n++ {
		l[from], l[n] = l[n], l[from]
		places(l, from+1, do)
		l[from], l[n] = l[n], l[from]
	}
}

func TestIN1ListOrder(t *testing.T) {
	for _, want := range [][]string{
		{"-", "...", "0", "9", "_", "a"},
		{"-", "--", "-a", "...", "..a", ".a"},
		{"1", "10", "100", "11", "2", "9"},
		{"a", "a-", "a.", "a0", "a_", "aa"},
		{"z", "z-", "z-z", "zz", "zz-", "zzz"},
		{sixteen[:14], sixteen[:15], sixteen, "b", "ba", "z"},
	} {
		places(slices.Clone(want), 0, func(l []string) {
			k := grown(t, 7)
			for n, name := range l {
				if got := k.call(mk(1, name, n%2)); got.n != n+2 {
					t.Fatalf("Make(%q): %v", name, got)
				}
			}
			if got := k.call(list(1)); !got.is(listed(want...)) {
				t.Fatalf("List behind %q: %v, want %q", l, got, want)
			}
		})
	}
}

// Each byte of a name alone, and behind another one; each of them is also unlinked.
func TestIN1ListBytes(t *testing.T) {
	const inOrder = "-.0123456789_abcdefghijklmnopqrstuvwxyz"
	for _, ahead := range []string{"", "m", ".", sixteen[:15]} {
		k := grown(t, 64)
		var want []string
		for n, name := range strings.Split(letters, "") {
			if ahead+name == "." || ahead+name == ".." {
				k.rows(row{mk(1, ahead+name, file), bad(17)})
				continue
			}
			k.call(mk(1, ahead+name, n%2))
		}
		for _, b := range inOrder {
			if name := ahead + string(b); name != "." && name != ".." {
				want = append(want, name)
			}
		}
		k.rows(row{list(1), answer{l: want}}, row{many(), num(len(want) + 1)})
		for len(want) > 0 {
			n := len(want) * 2 / 3
			k.rows(row{unlink(1, want[n]), done})
			want = slices.Delete(want, n, n+1)
			k.rows(row{list(1), answer{l: want}}, row{many(), num(len(want) + 1)})
		}
	}
}

// A directory's names are its own, not those of what lies in it.
func TestIN1ListDirectories(t *testing.T) {
	deep(t, 7).rows(
		row{list(1), listed("a")}, row{list(2), listed("b", "d")}, row{list(3), listed("c")}, row{list(4), listed("x", "y")}, row{list(7), listed()},
		row{unlink(4, "x"), done}, row{list(4), listed("y")}, row{list(2), listed("b", "d")},
		row{mk(7, "x", folder), num(5)}, row{list(7), listed("x")}, row{list(5), listed()}, row{list(4), listed("y")},
		row{kind(1), num(1)}, row{kind(2), num(1)}, row{kind(3), num(1)}, row{kind(4), num(1)}, row{kind(5), num(1)}, row{kind(6), num(0)}, row{kind(7), num(1)},
	)
}

// Many behind each kind of call.
func TestIN1Many(t *testing.T) {
	k := grown(t, 5)
	for _, r := range []struct {
		c    call
		no   int
		many int
	}{
		{many(), 0, 1},
		{mk(1, "a", folder), 0, 2}, {mk(2, "b", file), 0, 3}, {mk(2, "c", file), 0, 4}, {mk(2, "c", file), 17, 4}, {mk(3, "c", file), 20, 4}, {mk(9, "c", file), 2, 4}, {mk(2, "d", 2), 22, 4},
		{hold(3), 0, 4}, {hold(3), 0, 4}, {hold(9), 2, 4}, {drop(4), 22, 4}, {drop(9), 2, 4},
		{write(3, 0, "abc"), 0, 4}, {write(2, 0, "abc"), 21, 4}, {read(3, 0, 9), 0, 4}, {read(2, 0, 9), 21, 4}, {size(3), 0, 4}, {cut(3), 0, 4}, {cut(2), 21, 4}, {size(2), 21, 4},
		{find(2, "b"), 0, 4}, {find(2, "d"), 2, 4}, {walk(1, "a", "c"), 0, 4}, {walk(1, "c"), 2, 4}, {list(2), 0, 4}, {list(3), 20, 4}, {kind(4), 0, 4}, {kind(5), 2, 4},
		{unlink(1, "a"), 39, 4}, {unlink(2, "d"), 2, 4}, {unlink(2, "."), 22, 4},
		{unlink(2, "b"), 0, 4}, {drop(3), 0, 4}, {mk(1, "b", file), 0, 5}, {mk(1, "c", file), 28, 5}, {drop(3), 0, 4}, {drop(3), 2, 4},
		{unlink(2, "c"), 0, 3}, {hold(2), 0, 3}, {unlink(1, "a"), 0, 3}, {mk(2, "a", file), 2, 3}, {drop(2), 0, 2}, {unlink(1, "b"), 0, 1}, {hold(1), 0, 1}, {drop(1), 0, 1}, {drop(1), 22, 1},
	} {
		if got := k.call(r.c); got.no != r.no {
			t.Fatalf("%v: %v, want error %d", r.c, got, r.no)
		}
		k.rows(row{many(), num(r.many)})
	}
}

func TestIN2MakeNumbers(t *testing.T) {
	for most := 1; most <= 64; most++ {
		k := grown(t, most)
		for id := 2; id <= most; id++ {
			name := fmt.Sprint("n", id)
			k.rows(row{mk(1, name, id%2), num(id)}, row{kind(id), num(id % 2)}, row{find(1, name), num(id)}, row{many(), num(id)})
		}
		for _, kind := range []int{file, folder, file} {
			k.rows(row{mk(1, "more", kind), bad(28)}, row{find(1, "more"), bad(2)}, row{many(), num(most)})
		}
	}
}

// Numbers that become free are the next ones, the least one first.
func TestIN2MakeFreedNumbers(t *testing.T) {
	grown(t, 8).ids(1, file, 2, "b", "c", "d", "e", "f", "g", "h").rows(
		row{mk(1, "x", file), bad(28)},
		row{unlink(1, "g"), done}, row{unlink(1, "c"), done}, row{unlink(1, "e"), done},
		row{mk(1, "x", folder), num(3)}, row{mk(3, "c", file), num(5)},
		row{unlink(1, "b"), done},
		row{mk(3, "b", file), num(2)}, row{mk(3, "a", file), num(7)}, row{mk(3, "z", file), bad(28)},
		row{list(1), listed("d", "f", "h", "x")}, row{list(3), listed("a", "b", "c")},
		row{unlink(1, "h"), done}, row{mk(1, "h", file), num(8)}, row{mk(1, "i", file), bad(28)},
	)
	// One that has no name, but is held, keeps its number and its place.
	grown(t, 4).ids(1, file, 2, "b", "c", "d").rows(
		row{hold(3), done}, row{unlink(1, "c"), done}, row{mk(1, "x", file), bad(28)},
		row{unlink(1, "d"), done}, row{mk(1, "c", folder), num(4)}, row{find(1, "c"), num(4)}, row{kind(3), num(0)},
		row{unlink(1, "b"), done}, row{drop(3), done}, row{mk(1, "e", file), num(2)}, row{mk(1, "f", file), num(3)}, row{mk(1, "g", file), bad(28)},
	)
	// A number from the middle, while there is room behind the last one too.
	grown(t, 64).ids(1, file, 2, "b", "c", "d").rows(
		row{unlink(1, "c"), done}, row{mk(1, "e", file), num(3)}, row{mk(1, "f", file), num(5)},
		row{unlink(1, "b"), done}, row{unlink(1, "d"), done}, row{mk(1, "g", file), num(2)}, row{mk(1, "h", file), num(4)}, row{mk(1, "i", file), num(6)},
	)
}

// A node with a number that another one had before has nothing of that one.
func TestIN2MakeIsEmpty(t *testing.T) {
	grown(t, 3).rows(
		row{mk(1, "a", file), num(2)}, row{write(2, 0, "before"), num(6)}, row{unlink(1, "a"), done},
		row{mk(1, "a", file), num(2)}, row{size(2), num(0)}, row{read(2, 0, 10), text("")}, row{write(2, 3, "x"), num(1)}, row{read(2, 0, 10), text("\x00\x00\x00x")},
		row{hold(2), done}, row{unlink(1, "a"), done}, row{drop(2), done},
		row{mk(1, "a", folder), num(2)}, row{list(2), listed()}, row{drop(2), bad(22)}, row{mk(2, "b", file), num(3)}, row{unlink(2, "b"), done}, row{unlink(1, "a"), done},
		row{mk(1, "b", folder), num(2)}, row{list(2), listed()}, row{find(2, "b"), bad(2)}, row{mk(2, "c", folder), num(3)}, row{find(3, ".."), num(2)},
		row{unlink(2, "c"), done}, row{mk(1, "c", folder), num(3)}, row{find(3, ".."), num(1)}, row{unlink(1, "b"), done},
		row{mk(3, "b", file), num(2)}, row{size(2), num(0)}, row{drop(2), bad(22)},
	)
}

// Directories as deep as there is room for.
func TestIN2MakeDeep(t *testing.T) {
	k := grown(t, 64)
	var names []string
	for id := 2; id <= 64; id++ {
		k.rows(row{mk(id-1, "d", folder), num(id)}, row{find(id, ".."), num(id - 1)})
		names = append(names, "d")
		k.rows(row{walk(1, names...), num(id)}, row{walk(id, slices.Repeat([]string{".."}, id)...), num(1)})
	}
	k.rows(row{mk(64, "d", folder), bad(28)})
	for id := 64; id >= 2; id-- {
		k.rows(row{unlink(id-1, "d"), done}, row{many(), num(id - 1)})
		if id > 2 {
			k.rows(row{unlink(id-2, "d"), done}, row{mk(id-2, "d", folder), num(id - 1)})
		}
	}
}

// A name may be in several directories, and be the one of a file in one, of a directory in another.
func TestIN2MakeSameName(t *testing.T) {
	grown(t, 6).rows(
		row{mk(1, "a", folder), num(2)}, row{mk(2, "a", folder), num(3)}, row{mk(3, "a", file), num(4)}, row{mk(1, "b", folder), num(5)}, row{mk(5, "a", file), num(6)},
		row{walk(1, "a", "a", "a"), num(4)}, row{find(5, "a"), num(6)},
		row{unlink(5, "a"), done}, row{find(1, "a"), num(2)}, row{find(2, "a"), num(3)}, row{find(3, "a"), num(4)},
		row{mk(5, "a", folder), num(6)}, row{find(6, ".."), num(5)}, row{unlink(3, "a"), done}, row{unlink(2, "a"), done}, row{find(5, "a"), num(6)}, row{find(1, "a"), num(2)},
	)
}

func TestIN2MakeNames(t *testing.T) {
	for _, r := range []struct {
		name string
		no   int
	}{
		{"a", 0}, {"z", 0}, {"0", 0}, {"9", 0}, {"_", 0}, {"-", 0}, {"...", 0}, {"..a", 0}, {".a", 0}, {"a.", 0}, {"a..", 0}, {sixteen, 0}, {strings.Repeat("z", 16), 0}, {strings.Repeat(".", 16), 0},
		{"", 2},
		{seventeen, 36}, {strings.Repeat(".", 17), 36}, {strings.Repeat("A", 17), 36}, {sixteen + "/", 36}, {strings.Repeat("é", 9), 36}, {strings.Repeat("a", 256), 36}, {strings.Repeat("a", 1<<16), 36},
		{"A", 22}, {"a/b", 22}, {"/", 22}, {"/a", 22}, {"a/", 22}, {"../a", 22}, {" ", 22}, {"a b", 22}, {"\x00", 22}, {"a\x00", 22}, {"é", 22}, {"\xff", 22}, {strings.Repeat("é", 8), 22}, {strings.Repeat("A", 16), 22},
		{".", 17}, {"..", 17},
	} {
		for kind := range 2 {
			k := grown(t, 3)
			if r.no != 0 {
				k.rows(row{mk(1, r.name, kind), bad(r.no)}, row{list(1), listed()}, row{many(), num(1)})
				continue
			}
			k.rows(row{mk(1, r.name, kind), num(2)}, row{list(1), listed(r.name)}, row{find(1, r.name), num(2)}, row{walk(1, r.name), num(2)}, row{mk(1, r.name, 1-kind), bad(17)}, row{unlink(1, r.name), done}, row{many(), num(1)})
		}
	}
	for b := range 256 {
		want := bad(22)
		switch {
		case b == '.':
			want = bad(17)
		case strings.IndexByte(letters, byte(b)) >= 0:
			want = num(2)
		}
		grown(t, 2).rows(row{mk(1, string([]byte{byte(b)}), file), want})
	}
}

func TestIN2Unlink(t *testing.T) {
	deep(t, 9).rows(
		row{unlink(4, "x"), done}, row{find(4, "x"), bad(2)}, row{kind(5), bad(2)}, row{many(), num(6)}, row{unlink(4, "x"), bad(2)},
		row{unlink(3, "c"), bad(39)}, row{unlink(4, "y"), done}, row{unlink(3, "c"), done}, row{kind(4), bad(2)}, row{list(3), listed()}, row{many(), num(4)},
		row{unlink(1, "a"), bad(39)}, row{unlink(2, "b"), done}, row{unlink(1, "a"), bad(39)}, row{unlink(2, "d"), done}, row{unlink(1, "a"), done}, row{many(), num(1)}, row{list(1), listed()}, row{unlink(1, "a"), bad(2)},
	)
}

// A directory that has names stays, held or not; one that is empty goes, held or not.
func TestIN2UnlinkDirectories(t *testing.T) {
	grown(t, 4).ids(1, folder, 2, "a").ids(2, folder, 3, "b").rows(
		row{hold(2), done}, row{hold(3), done},
		row{unlink(1, "a"), bad(39)}, row{find(1, "a"), num(2)},
		row{unlink(2, "b"), done}, row{list(2), listed()},
		row{unlink(1, "a"), done}, row{list(1), listed()}, row{many(), num(3)},
		row{mk(2, "x", file), bad(2)}, row{mk(3, "x", file), bad(2)}, row{unlink(2, "b"), bad(2)},
		row{mk(1, "a", file), num(4)}, row{kind(2), num(1)},
		row{drop(2), done}, row{many(), num(3)}, row{drop(3), done}, row{many(), num(2)}, row{list(1), listed("a")},
	)
}

// The same name once more is that of another node.
func TestIN2UnlinkAndMake(t *testing.T) {
	grown(t, 3).rows(
		row{mk(1, "a", file), num(2)}, row{write(2, 0, "old"), num(3)}, row{hold(2), done}, row{unlink(1, "a"), done},
		row{mk(1, "a", file), num(3)}, row{write(3, 0, "newer"), num(5)}, row{find(1, "a"), num(3)}, row{read(2, 0, 9), text("old")}, row{read(3, 0, 9), text("newer")},
		row{drop(2), done}, row{find(1, "a"), num(3)}, row{read(3, 0, 9), text("newer")}, row{kind(2), bad(2)}, row{many(), num(2)},
	)
}
