package inode_test

import (
	"fmt"
	"math"
	"strings"
	"testing"

	"halter/inode"
)

// letter are so many bytes that go on from a place as a file does that is full of them: none is 0, and no two places near each other have the same.
func letter(from, many int) string {
	b := make([]byte, many)
	for i := range b {
		b[i] = byte((from+i)%251 + 1)
	}
	return string(b)
}

// noughts are bytes 0.
func noughts(many int) string { return strings.Repeat("\x00", many) }

// filed is a tree with the file 2 that has some bytes, and the empty file 3.
func filed(t *testing.T, s string) *tree {
	t.Helper()
	return grown(t, 4).ids(1, file, 2, "a", "b").rows(row{write(2, 0, s), num(len(s))}, row{size(2), num(len(s))})
}

func TestIN3HoldAndDrop(t *testing.T) {
	grown(t, 3).ids(1, file, 2, "a").ids(1, folder, 3, "d").rows(
		row{drop(2), bad(22)}, row{drop(3), bad(22)},
		row{hold(2), done}, row{hold(2), done}, row{hold(3), done},
		row{drop(2), done}, row{drop(2), done}, row{drop(2), bad(22)}, row{find(1, "a"), num(2)}, row{many(), num(3)},
		row{drop(3), done}, row{drop(3), bad(22)}, row{kind(3), num(1)}, row{many(), num(3)},
		// Held while it has a name, twice; then without.
		row{hold(2), done}, row{hold(2), done}, row{unlink(1, "a"), done}, row{kind(2), num(0)},
		row{drop(2), done}, row{kind(2), num(0)}, row{many(), num(3)}, row{hold(2), done}, row{drop(2), done}, row{kind(2), num(0)},
		row{drop(2), done}, row{kind(2), bad(2)}, row{drop(2), bad(2)}, row{hold(2), bad(2)}, row{many(), num(2)},
	)
}

// The root stays, held or not.
func TestIN3HoldRoot(t *testing.T) {
	for _, most := range []int{1, 2, 64} {
		k := grown(t, most)
		for times := range 4 {
			for range times {
				k.rows(row{hold(1), done})
			}
			for range times {
				k.rows(row{drop(1), done})
			}
			k.rows(row{drop(1), bad(22)}, row{many(), num(1)}, row{find(1, ".."), num(1)})
		}
		if most > 1 {
			k.rows(row{hold(1), done}, row{drop(1), done}, row{mk(1, "a", folder), num(2)}, row{find(2, ".."), num(1)})
		}
	}
}

// Who holds one node holds no other one.
func TestIN3HoldOne(t *testing.T) {
	k := grown(t, 5).ids(1, file, 2, "a", "b", "c").ids(1, folder, 5, "d")
	for id := 1; id <= 5; id++ {
		for range id {
			k.rows(row{hold(id), done})
		}
	}
	k.rows(row{unlink(1, "a"), done}, row{unlink(1, "c"), done}, row{unlink(1, "d"), done}, row{many(), num(5)})
	for id := 5; id >= 1; id-- {
		for range id {
			k.rows(row{drop(id), done})
		}
		no := 22
		if id == 2 || id == 4 || id == 5 {
			no = 2
		}
		k.rows(row{drop(id), bad(no)})
	}
	k.rows(row{many(), num(2)}, row{list(1), listed("b")})
}

// A node can be held 2^30 times, and not once more.
func TestIN3HoldLimit(t *testing.T) {
	t.Parallel()
	const most = 1 << 30
	x, err := inode.New(2)
	if err != nil {
		t.Fatal(err)
	}
	if id, err := x.Make(inode.Root, "a", inode.File); id != 2 || err != nil {
		t.Fatalf("Make: %d, %v", id, err)
	}
	for times := range most {
		if x.Hold(2) != nil {
			t.Fatalf("Hold of a node that is held %d times", times)
		}
	}
	for n, r := range []row{
		{hold(2), bad(22)}, {hold(2), bad(22)}, {many(), num(2)}, {size(2), num(0)}, {find(1, "a"), num(2)},
		{hold(1), done}, {drop(1), done}, {drop(1), bad(22)},
		{drop(2), done}, {hold(2), done}, {hold(2), bad(22)},
		{unlink(1, "a"), done}, {hold(2), bad(22)}, {drop(2), done}, {drop(2), done}, {hold(2), done}, {hold(2), done}, {hold(2), bad(22)}, {many(), num(2)},
	} {
		if got := r.c.do(t, x); !got.is(r.want) {
			t.Fatalf("row %d: %v: %v, want %v", n, r.c, got, r.want)
		}
	}
}

func TestIN3Read(t *testing.T) {
	const s = "0123456789"
	filed(t, s).rows(
		row{read(2, 0, 10), text(s)}, row{read(2, 0, 1), text("0")}, row{read(2, 9, 1), text("9")}, row{read(2, 3, 4), text("3456")}, row{read(2, 3, 7), text("3456789")},
		// Across the end, at it, and behind it.
		row{read(2, 0, 11), text(s)}, row{read(2, 3, 8), text("3456789")}, row{read(2, 9, 2), text("9")}, row{read(2, 9, 4096), text("9")},
		row{read(2, 10, 1), text("")}, row{read(2, 10, 4096), text("")}, row{read(2, 11, 1), text("")}, row{read(2, 4095, 1), text("")}, row{read(2, 4096, 1), text("")}, row{read(2, 5000, 9), text("")},
		// No bytes.
		row{read(2, 0, 0), text("")}, row{read(2, 5, 0), text("")}, row{read(2, 9, 0), text("")}, row{read(2, 10, 0), text("")}, row{read(2, 11, 0), text("")}, row{read(2, 4096, 0), text("")}, row{read(2, math.MaxInt, 0), text("")},
		// More than there can be.
		row{read(2, 0, math.MaxInt), text(s)}, row{read(2, 1, math.MaxInt), text("123456789")}, row{read(2, 9, math.MaxInt), text("9")}, row{read(2, 10, math.MaxInt), text("")}, row{read(2, math.MaxInt, math.MaxInt), text("")},
		row{read(2, 4, math.MaxInt32), text("456789")}, row{read(2, 1<<32, 5), text("")}, row{read(2, 1<<32+1, 5), text("")}, row{read(2, 1, 1<<32), text("123456789")}, row{read(2, 1<<31, 1<<31), text("")}, row{read(2, 1<<16, 5), text("")},
		row{read(2, -1, 1), bad(22)}, row{read(2, 0, -1), bad(22)}, row{read(2, -1, -1), bad(22)}, row{read(2, 11, -1), bad(22)}, row{read(2, math.MinInt, math.MaxInt), bad(22)}, row{read(2, math.MaxInt, math.MinInt), bad(22)},
		row{read(3, 0, 1), text("")}, row{read(3, 0, 0), text("")}, row{read(3, 1, 1), text("")}, row{read(3, 0, math.MaxInt), text("")},
	)
}

// Each offset and each number of bytes, of small files and of one that is full.
func TestIN3ReadEach(t *testing.T) {
	for bytes := range 9 {
		k := filed(t, letter(0, bytes))
		for off := range bytes + 3 {
			for n := range bytes + 4 {
				from, to := min(off, bytes), min(off+n, bytes)
				k.rows(row{read(2, off, n), text(letter(from, to-from))})
			}
		}
	}
	k := filed(t, letter(0, 4096))
	for off := range 4098 {
		for _, n := range []int{0, 1, 2, 255, 256, 4096 - off - 1, 4096 - off, 4096 - off + 1, 4096, 4097} {
			if n < 0 {
				continue
			}
			from, to := min(off, 4096), min(off+n, 4096)
			if got := read(2, off, n).do(t, k.x); !got.is(text(letter(from, to-from))) {
				t.Fatalf("Read(2, %d, %d): %v", off, n, got)
			}
		}
	}
	k.alike("reading")
}

func TestIN3Write(t *testing.T) {
	filed(t, "0123456789").rows(
		row{write(2, 0, "ab"), num(2)}, row{read(2, 0, 99), text("ab23456789")}, row{size(2), num(10)},
		row{write(2, 4, "c"), num(1)}, row{read(2, 0, 99), text("ab23c56789")},
		row{write(2, 9, "d"), num(1)}, row{read(2, 0, 99), text("ab23c5678d")}, row{size(2), num(10)},
		row{write(2, 8, "ef"), num(2)}, row{read(2, 0, 99), text("ab23c567ef")}, row{size(2), num(10)},
		// Across the end, at it, and behind it.
		row{write(2, 9, "gh"), num(2)}, row{read(2, 0, 99), text("ab23c567egh")}, row{size(2), num(11)},
		row{write(2, 11, "i"), num(1)}, row{read(2, 0, 99), text("ab23c567eghi")}, row{size(2), num(12)},
		row{write(2, 13, "j"), num(1)}, row{read(2, 0, 99), text("ab23c567eghi\x00j")}, row{size(2), num(14)},
		row{write(2, 20, "kl"), num(2)}, row{read(2, 0, 99), text("ab23c567eghi\x00j\x00\x00\x00\x00\x00\x00kl")}, row{size(2), num(22)},
		row{write(2, 12, "mnop"), num(4)}, row{read(2, 10, 99), text("himnop\x00\x00\x00\x00kl")},
		// Noughts are bytes like others.
		row{write(2, 0, "\x00\x00"), num(2)}, row{read(2, 0, 4), text("\x00\x0023")}, row{write(2, 22, "\x00"), num(1)}, row{size(2), num(23)},
		row{write(3, 0, "\x00"), num(1)}, row{size(3), num(1)}, row{read(3, 0, 9), text("\x00")},
		row{write(2, -1, "a"), bad(22)}, row{write(2, math.MinInt, "a"), bad(22)}, row{write(2, -1, ""), bad(22)}, row{size(2), num(23)},
	)
	// Behind the end of a file that is empty.
	filed(t, "").rows(row{write(2, 5, "abc"), num(3)}, row{read(2, 0, 99), text("\x00\x00\x00\x00\x00abc")}, row{size(2), num(8)}, row{size(3), num(0)})
}

// Each offset and each number of bytes over small files; what stands there stays or becomes 0.
func TestIN3WriteEach(t *testing.T) {
	for bytes := range 7 {
		for off := range 12 {
			for n := range 12 {
				k := filed(t, letter(0, bytes))
				want := letter(0, bytes)
				if n > 0 {
					want += noughts(max(0, off+n-bytes))
					want = want[:off] + letter(100, n) + want[off+n:]
				}
				k.rows(row{write(2, off, letter(100, n)), num(n)}, row{read(2, 0, 99), text(want)}, row{size(2), num(len(want))})
			}
		}
	}
}

// Bytes at 4,096 and beyond are left out.
func TestIN3WriteLimit(t *testing.T) {
	for _, bytes := range []int{0, 1, 4000, 4095, 4096} {
		before := letter(0, bytes) + noughts(4096-bytes)
		for _, r := range []struct{ off, many, stored int }{
			{4095, 1, 1}, {4095, 2, 1}, {4095, 4096, 1}, {4094, 1, 1}, {4094, 2, 2}, {4094, 3, 2}, {4090, 100, 6},
			{0, 4095, 4095}, {0, 4096, 4096}, {0, 4097, 4096}, {0, 5000, 4096}, {0, 1 << 16, 4096}, {1, 4095, 4095}, {1, 4096, 4095}, {1, 5000, 4095}, {2048, 2048, 2048}, {2048, 2049, 2048}, {2048, 4096, 2048},
		} {
			end := r.off + r.stored
			want := (before[:r.off] + letter(77, r.stored) + before[end:])[:max(bytes, end)]
			filed(t, letter(0, bytes)).rows(row{write(2, r.off, letter(77, r.many)), num(r.stored)}, row{size(2), num(len(want))}, row{read(2, 0, 5000), text(want)})
		}
		k := filed(t, letter(0, bytes))
		for _, off := range []int{4096, 4097, 4196, 5000, 8191, 8192, 1 << 16, 1<<16 + 1, math.MaxInt32, 1 << 32, 1<<32 + 5, math.MaxInt - 1, math.MaxInt} {
			k.rows(row{write(2, off, "a"), bad(28)}, row{write(2, off, "abc"), bad(28)}, row{write(2, off, letter(0, 5000)), bad(28)}, row{size(2), num(bytes)})
		}
	}
}

// No bytes: nothing changes, wherever it is.
func TestIN3WriteNothing(t *testing.T) {
	for _, bytes := range []int{0, 1, 10, 4095, 4096} {
		k := filed(t, letter(0, bytes))
		for _, off := range []int{0, 1, 9, 10, 11, 4094, 4095, 4096, 4097, 5000, 1 << 16, 1 << 32, math.MaxInt} {
			k.rows(row{write(2, off, ""), num(0)}, row{size(2), num(bytes)}, row{read(2, 0, 5000), text(letter(0, bytes))})
			if n, err := k.x.Write(2, off, nil); n != 0 || err != nil {
				t.Errorf("Write(2, %d, nil): %d, %v", off, n, err)
			}
			if n, err := k.x.Write(2, off, make([]byte, 0, 9)); n != 0 || err != nil {
				t.Errorf("Write(2, %d) of no bytes with spare room: %d, %v", off, n, err)
			}
			k.alike("writing nothing")
		}
	}
}

// What a file had before it was cut is gone: bytes behind its end become 0.
func TestIN3Cut(t *testing.T) {
	for _, bytes := range []int{0, 1, 10, 300, 4096} {
		k := filed(t, letter(0, bytes)).rows(
			row{cut(2), done}, row{size(2), num(0)}, row{read(2, 0, 5000), text("")}, row{cut(2), done}, row{size(2), num(0)},
			row{write(2, 4, "x"), num(1)}, row{read(2, 0, 5000), text("\x00\x00\x00\x00x")}, row{write(2, 8, "y"), num(1)}, row{read(2, 0, 5000), text("\x00\x00\x00\x00x\x00\x00\x00y")},
			row{cut(2), done}, row{write(2, 4095, "z"), num(1)}, row{read(2, 0, 5000), text(noughts(4095) + "z")},
			row{cut(2), done}, row{write(2, 0, "again"), num(5)}, row{read(2, 0, 5000), text("again")}, row{many(), num(3)}, row{find(1, "a"), num(2)},
		)
		k.rows(row{write(3, 0, "other"), num(5)}, row{cut(2), done}, row{read(3, 0, 9), text("other")}, row{size(3), num(5)})
	}
}

// A file that is held and has no name is cut and written like others.
func TestIN3CutNameless(t *testing.T) {
	filed(t, "some bytes").rows(
		row{hold(2), done}, row{unlink(1, "a"), done}, row{cut(2), done}, row{size(2), num(0)}, row{write(2, 2, "b"), num(1)}, row{read(2, 0, 9), text("\x00\x00b")},
		row{drop(2), done}, row{size(2), bad(2)}, row{cut(2), bad(2)}, row{read(2, 0, 9), bad(2)}, row{write(2, 0, "a"), bad(2)}, row{write(2, 0, ""), bad(2)},
	)
}

// What was written is read, also behind Unlink, while the node is held.
func TestIN4WrittenIsRead(t *testing.T) {
	const most = 9
	k := grown(t, most)
	for id := 2; id <= most; id++ {
		k.rows(row{mk(1, fmt.Sprint(id), file), num(id)})
	}
	for id := 2; id <= most; id++ {
		k.rows(row{write(id, 0, letter(id*17, id*100)), num(id * 100)}, row{write(id, id*50, letter(id, 3)), num(3)})
	}
	want := func(id int) string {
		s := letter(id*17, id*100)
		return s[:id*50] + letter(id, 3) + s[id*50+3:]
	}
	held := func() {
		for id := 2; id <= most; id++ {
			k.rows(row{read(id, 0, 5000), text(want(id))}, row{size(id), num(id * 100)}, row{read(id, id*50-1, 4), text(want(id)[id*50-1 : id*50+3])})
		}
	}
	held()
	for id := 2; id <= most; id++ {
		for range id {
			k.rows(row{hold(id), done})
		}
		k.rows(row{unlink(1, fmt.Sprint(id)), done})
	}
	held()
	k.rows(row{list(1), listed()}, row{many(), num(most)}, row{mk(1, "more", file), bad(28)})
	for id := 2; id <= most; id++ {
		for range id - 1 {
			k.rows(row{drop(id), done})
		}
	}
	held()
	for id := most; id >= 2; id-- {
		k.rows(row{write(id, 4000, "at the end"), num(10)}, row{read(id, 3999, 99), text("\x00at the end")}, row{drop(id), done}, row{read(id, 0, 9), bad(2)}, row{many(), num(id - 1)})
	}
}

// Every node but the root has one name at most: whatever is found in a directory is found nowhere else.
func (k *tree) wantOneName(behind string) {
	k.Helper()
	named := map[int]string{}
	for dir := 1; dir <= k.m.most; dir++ {
		l, err := k.x.List(dir)
		if err != nil {
			continue
		}
		for _, name := range l {
			id, err := k.x.Find(dir, name)
			if err != nil {
				k.Fatalf("%s: Find(%d, %q): %v, though it is listed", behind, dir, name, err)
			}
			place := fmt.Sprintf("%q in %d", name, dir)
			if named[id] != "" || id == 1 {
				k.Fatalf("%s: %d is %s and %s", behind, id, place, named[id])
			}
			named[id] = place
			if up, err := k.x.Find(id, ".."); err == nil && up != dir {
				k.Fatalf("%s: the directory above %s is %d", behind, place, up)
			}
		}
	}
}

func TestIN4OneName(t *testing.T) {
	k := deep(t, 9)
	k.wantOneName("making")
	k.rows(row{hold(5), done}, row{unlink(4, "x"), done}, row{mk(4, "x", file), num(8)}, row{mk(1, "x", file), num(9)})
	k.wantOneName("making a name once more")
	k.rows(row{drop(5), done}, row{mk(7, "x", folder), num(5)}, row{mk(5, "x", folder), bad(28)}, row{unlink(1, "x"), done}, row{mk(5, "x", folder), num(9)})
	k.wantOneName("making what is numbered as others were")
}
