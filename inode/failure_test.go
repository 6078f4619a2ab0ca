package inode_test

import (
	"fmt"
	"math"
	"testing"

	"halter/inode"
)

// strangers are numbers that no node has, however many there are.
var strangers = []int{math.MinInt, math.MinInt + 1, -1<<32 + 1, math.MinInt32, -64, -2, -1, 0, 65, 66, 128, 257, 1<<16 + 1, math.MaxInt32, 1<<32 + 1, 1<<32 + 2, math.MaxInt}

// ofAny, ofFolders and ofFiles are the calls that ask for a number, with nothing else that is wrong.
func ofAny(id int) []call { return []call{kind(id), hold(id), drop(id)} }

func ofFolders(id int) []call {
	return []call{find(id, "x"), find(id, "."), find(id, ".."), find(id, ""), walk(id), walk(id, "x"), walk(id, "."), walk(id, "..", "x"), mk(id, "x", file), mk(id, "x", folder), unlink(id, "x"), list(id)}
}

func ofFiles(id int) []call {
	return []call{read(id, 0, 1), read(id, 0, 0), read(id, 4096, 1), write(id, 0, "a"), write(id, 0, ""), write(id, 4095, "ab"), cut(id), size(id)}
}

// all are calls, each of which should have an error.
func (k *tree) all(no int, l ...call) {
	k.Helper()
	for _, c := range l {
		k.rows(row{c, bad(no)})
	}
}

// mixed is a full tree: in the root the directories d 2 (with x 3 in it), e 4 (empty) and the files f 5 and g 6; 7 is a directory without a name that is held, 8 a file without a name that is held twice.
func mixed(t *testing.T) *tree {
	t.Helper()
	return grown(t, 8).ids(1, folder, 2, "d").ids(2, file, 3, "x").ids(1, folder, 4, "e").ids(1, file, 5, "f", "g").ids(1, folder, 7, "h").ids(1, file, 8, "i").rows(
		row{write(5, 0, "text of f"), num(9)}, row{write(8, 0, "text of i"), num(9)},
		row{hold(7), done}, row{hold(8), done}, row{hold(8), done}, row{unlink(1, "h"), done}, row{unlink(1, "i"), done},
		row{many(), num(8)},
	)
}

func TestNoSuchNode(t *testing.T) {
	k := mixed(t)
	for _, id := range strangers {
		k.all(2, ofAny(id)...)
		k.all(2, ofFolders(id)...)
		k.all(2, ofFiles(id)...)
	}
	// Numbers that nodes have had.
	k.rows(row{drop(7), done}, row{drop(8), done}, row{drop(8), done}, row{unlink(1, "g"), done})
	for _, id := range []int{6, 7, 8} {
		k.all(2, ofAny(id)...)
		k.all(2, ofFolders(id)...)
		k.all(2, ofFiles(id)...)
	}
	k.release("all")
}

func TestWrongKind(t *testing.T) {
	k := mixed(t)
	for _, id := range []int{3, 5, 6, 8} {
		k.all(20, ofFolders(id)...)
	}
	for _, id := range []int{1, 2, 4, 7} {
		k.all(21, ofFiles(id)...)
	}
	k.release("all")
}

// Where two errors would do: those of dir, of the name, ErrExist, ErrArg, ErrNone, ErrSpace.
func TestIN2MakeOrder(t *testing.T) {
	k := mixed(t) // it is full
	wrong := []int{math.MinInt, -1, 2, 3, 256, 257, 1 << 32, math.MaxInt}
	for _, kind := range append(wrong, file, folder) {
		for _, name := range []string{"x", "d", "", ".", "..", "A", "a/b", seventeen} {
			k.all(2, mk(9, name, kind), mk(0, name, kind), mk(-1, name, kind))
			k.all(20, mk(5, name, kind), mk(3, name, kind), mk(8, name, kind))
		}
		for _, dir := range []int{1, 2, 4, 7} {
			k.all(2, mk(dir, "", kind))
			k.all(36, mk(dir, seventeen, kind), mk(dir, "ABCDEFGHIJKLMNOPQ", kind))
			k.all(22, mk(dir, "A", kind), mk(dir, "a/b", kind), mk(dir, "./", kind))
			k.all(17, mk(dir, ".", kind), mk(dir, "..", kind))
		}
		k.all(17, mk(1, "d", kind), mk(1, "e", kind), mk(1, "f", kind), mk(2, "x", kind))
	}
	for _, kind := range wrong {
		k.all(22, mk(1, "new", kind), mk(2, "new", kind), mk(7, "new", kind), mk(7, "x", kind))
	}
	for kind := range 2 {
		k.all(2, mk(7, "new", kind), mk(7, sixteen, kind))
		k.all(28, mk(1, "new", kind), mk(2, "new", kind), mk(4, "x", kind), mk(1, sixteen, kind))
	}
	// The same without the one that comes last: there is room.
	k.rows(row{unlink(1, "g"), done})
	for _, kind := range wrong {
		k.all(22, mk(1, "new", kind), mk(7, "new", kind))
	}
	k.all(2, mk(7, "new", file), mk(7, "new", folder))
	k.rows(row{mk(4, "new", folder), num(6)})
	k.all(28, mk(6, "new", folder))
	k.release("all")
}

// Where two errors would do: those of dir, ErrArg, ErrNone, ErrNotEmpty.
func TestIN2UnlinkOrder(t *testing.T) {
	k := mixed(t)
	for _, name := range []string{"x", "d", "", ".", "..", "A", seventeen} {
		k.all(2, unlink(9, name), unlink(0, name), unlink(-1, name))
		k.all(20, unlink(5, name), unlink(3, name), unlink(8, name))
	}
	for _, dir := range []int{1, 2, 4, 7} {
		k.all(22, unlink(dir, "."), unlink(dir, ".."))
		k.all(2, unlink(dir, ""), unlink(dir, "A"), unlink(dir, seventeen), unlink(dir, "a/b"), unlink(dir, "..."), unlink(dir, "new"), unlink(dir, "h"), unlink(dir, "i"))
	}
	k.all(2, unlink(1, "x"), unlink(2, "d"), unlink(4, "f"), unlink(1, "d/x"))
	k.all(39, unlink(1, "d"))
	k.release("all")
}

// A negative offset, or number of bytes, comes ahead of all that is wrong with the number of the node.
func TestIN3Order(t *testing.T) {
	k := mixed(t)
	for _, id := range append([]int{1, 2, 3, 4, 5, 6, 7, 8}, strangers...) {
		for _, off := range []int{-1, -2, -4096, math.MinInt32, math.MinInt} {
			k.all(22, read(id, off, 0), read(id, off, 1), read(id, off, -1), read(id, 0, off), read(id, 5, off), read(id, 5000, off), read(id, math.MaxInt, off), read(id, off, math.MaxInt))
			k.all(22, write(id, off, ""), write(id, off, "a"), write(id, off, "abc"))
		}
	}
	for _, off := range []int{4096, 4097, 1 << 16, 1 << 32, math.MaxInt} {
		for _, id := range strangers {
			k.all(2, write(id, off, "a"), write(id, off, ""))
		}
		for _, id := range []int{1, 2, 4, 7} {
			k.all(21, write(id, off, "a"), write(id, off, ""))
		}
		for _, id := range []int{3, 5, 6, 8} {
			k.all(28, write(id, off, "a"), write(id, off, "abc"))
			k.rows(row{write(id, off, ""), num(0)})
		}
	}
	k.release("all")
}

// Every method of a nil Tree.
func TestNil(t *testing.T) {
	var x *inode.Tree
	for _, id := range append([]int{1, 2, 3}, strangers...) {
		var l []call
		l = append(append(append(l, ofAny(id)...), ofFolders(id)...), ofFiles(id)...)
		l = append(l, read(id, -1, -1), write(id, -1, "a"), write(id, 5000, "a"), mk(id, "", 2), mk(id, seventeen, 0), mk(id, ".", 0), unlink(id, "."), walk(id, "", seventeen))
		for _, c := range l {
			if got := c.do(t, x); !got.is(bad(22)) {
				t.Errorf("%v of a nil Tree: %v, want error 22", c, got)
			}
		}
	}
	if got := many().do(t, x); !got.is(num(0)) {
		t.Errorf("Many of a nil Tree: %v, want 0", got)
	}
}

// Calls that fail, one behind the other, then those that work: a full tree is as if there had been none of the first.
func TestFailuresChangeNothing(t *testing.T) {
	k := mixed(t)
	for range 3 {
		for _, c := range []call{
			find(1, "new"), find(5, "x"), walk(1, "d", "x", "y"), walk(1, "e", "x"), list(5), list(9), kind(9),
			mk(1, "new", file), mk(1, "d", file), mk(1, "", file), mk(7, "new", folder), mk(4, "new", 2), unlink(1, "d"), unlink(1, "."), unlink(1, "new"), unlink(5, "x"),
			hold(9), drop(9), drop(1), drop(5), read(5, -1, 3), read(1, 0, 3), write(5, 4096, "abc"), write(5, -1, "abc"), write(2, 0, "abc"), cut(1), size(1),
		} {
			if got := k.call(c); got.no == 0 {
				t.Fatalf("%v: %v, want an error", c, got)
			}
			k.alike(c.String())
		}
	}
	k.rows(
		row{list(1), listed("d", "e", "f", "g")}, row{list(2), listed("x")}, row{read(5, 0, 99), text("text of f")}, row{read(8, 0, 99), text("text of i")},
		row{drop(7), done}, row{mk(4, "new", file), num(7)}, row{drop(8), done}, row{many(), num(8)}, row{drop(8), done}, row{many(), num(7)},
	).release("all")
}

// Errors are found however often they are asked for, and in trees of each size.
func TestFullTrees(t *testing.T) {
	for most := 1; most <= 64; most++ {
		k := grown(t, most)
		for id := 2; id <= most; id++ {
			k.call(mk(1, fmt.Sprint(id), folder))
		}
		for dir := 1; dir <= most; dir++ {
			k.all(28, mk(dir, "a", file), mk(dir, "b", folder))
		}
		k.all(2, mk(most+1, "a", file))
		if most > 1 {
			k.rows(row{unlink(1, fmt.Sprint(most)), done}, row{mk(1, "a", file), num(most)})
			k.all(28, mk(1, "b", file))
		}
	}
}
