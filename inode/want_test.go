package inode_test

import (
	"bytes"
	"errors"
	"fmt"
	"math"
	"slices"
	"testing"
	"unsafe"

	"halter/api"
	"halter/inode"
)

// call is one of a method; most methods have no use for some of its parts.
type call struct {
	method string
	id     int
	name   string
	names  []string
	off, n int
	b      []byte
}

func kind(id int) call                   { return call{method: "Kind", id: id} }
func find(dir int, name string) call     { return call{method: "Find", id: dir, name: name} }
func walk(dir int, names ...string) call { return call{method: "Walk", id: dir, names: names} }
func mk(dir int, name string, kind int) call {
	return call{method: "Make", id: dir, name: name, n: kind}
}
func unlink(dir int, name string) call { return call{method: "Unlink", id: dir, name: name} }
func hold(id int) call                 { return call{method: "Hold", id: id} }
func drop(id int) call                 { return call{method: "Drop", id: id} }
func read(id, off, n int) call         { return call{method: "Read", id: id, off: off, n: n} }
func write(id, off int, s string) call { return call{method: "Write", id: id, off: off, b: []byte(s)} }
func cut(id int) call                  { return call{method: "Cut", id: id} }
func size(id int) call                 { return call{method: "Size", id: id} }
func list(dir int) call                { return call{method: "List", id: dir} }
func many() call                       { return call{method: "Many"} }

func (c call) String() string {
	b := string(c.b)
	if len(b) > 40 {
		b = fmt.Sprintf("%s.. (%d)", b[:40], len(b))
	}
	return fmt.Sprintf("%s(%d, %q, %.10q, off %d, n %d, %q)", c.method, c.id, c.name, c.names, c.off, c.n, b)
}

// answer is what a call answers; no is the number of its error, 0: it has none.
type answer struct {
	n  int
	b  []byte
	l  []string
	no int
}

// done is the answer of a call that has nothing to tell.
var done = answer{}

func num(n int) answer              { return answer{n: n} }
func bad(no int) answer             { return answer{no: no} }
func text(s string) answer          { return answer{b: []byte(s)} }
func listed(names ...string) answer { return answer{l: names} }

func (a answer) is(o answer) bool {
	return a.n == o.n && a.no == o.no && bytes.Equal(a.b, o.b) && slices.Equal(a.l, o.l)
}

func (a answer) String() string {
	if len(a.b) > 60 {
		return fmt.Sprintf("%d, %d bytes from %q to %q, %q, error %d", a.n, len(a.b), a.b[:20], a.b[len(a.b)-20:], a.l, a.no)
	}
	return fmt.Sprintf("%d, %q, %q, error %d", a.n, a.b, a.l, a.no)
}

// number is that of an error; -1: it has none.
func number(err error) int {
	var no api.Errno
	switch {
	case err == nil:
		return 0
	case errors.As(err, &no) && no != 0:
		return int(no)
	}
	return -1
}

// lent is a text that lies in bytes, so that it can be written over.
func lent(s string) (string, []byte) {
	b := []byte(s)
	return unsafe.String(unsafe.SliceData(b), len(b)), b
}

func scribble(b []byte) {
	for i := range b {
		b[i] = '?'
	}
}

func scribbleNames(l []string) {
	for i := range l {
		l[i] = "written over"
	}
}

// between is a list as a part of a longer one, and that one; nothing, where there is no list.
func between[E any](l []E, guard E) (part, whole []E) {
	if l == nil {
		return nil, nil
	}
	whole = slices.Concat([]E{guard, guard}, l, []E{guard, guard, guard})
	return whole[2 : 2+len(l)], whole
}

// do makes a call. What it is given must stay as it is and is written over afterwards, and so is what it answers, with its spare room: a tree that kept any of it is not what it should be then.
func (c call) do(t *testing.T, x *inode.Tree) answer {
	name, nameBytes := lent(c.name)
	names, allNames := between(c.names, "beside")
	b, allBytes := between(c.b, '#')
	var a answer
	var err error
	switch c.method {
	case "Kind":
		a.n, err = x.Kind(c.id)
	case "Find":
		a.n, err = x.Find(c.id, name)
	case "Walk":
		a.n, err = x.Walk(c.id, names)
	case "Make":
		a.n, err = x.Make(c.id, name, c.n)
	case "Unlink":
		err = x.Unlink(c.id, name)
	case "Hold":
		err = x.Hold(c.id)
	case "Drop":
		err = x.Drop(c.id)
	case "Read":
		a.b, err = x.Read(c.id, c.off, c.n)
	case "Write":
		a.n, err = x.Write(c.id, c.off, b)
	case "Cut":
		err = x.Cut(c.id)
	case "Size":
		a.n, err = x.Size(c.id)
	case "List":
		a.l, err = x.List(c.id)
	case "Many":
		a.n = x.Many()
	}
	if _, same := between(c.names, "beside"); !slices.Equal(allNames, same) {
		t.Helper()
		t.Errorf("%v: the names that it was given, and others beside them, are %q now", c, allNames)
	}
	if _, same := between(c.b, '#'); !bytes.Equal(allBytes, same) {
		t.Helper()
		t.Errorf("%v: the bytes that it was given, and others beside them, are %q now", c, allBytes)
	}
	got := answer{a.n, slices.Clone(a.b), slices.Clone(a.l), number(err)}
	scribble(nameBytes)
	scribbleNames(allNames)
	scribble(allBytes)
	scribble(a.b[:cap(a.b)])
	scribbleNames(a.l[:cap(a.l)])
	return got
}

// tree is one, and the slow one that should be as it is.
type tree struct {
	*testing.T
	x *inode.Tree
	m slow
}

// grown is a tree with room for so many.
func grown(t *testing.T, most int) *tree {
	t.Helper()
	x, err := inode.New(most)
	if err != nil || x == nil {
		t.Fatalf("New(%d): %v, %v", most, x, err)
	}
	return &tree{t, x, newSlow(most)}
}

// call makes a call with both trees.
func (k *tree) call(c call) answer {
	got, want := c.do(k.T, k.x), k.m.do(c)
	if !got.is(want) {
		k.Helper()
		k.Fatalf("%v: %v, want %v", c, got, want)
	}
	return got
}

// look is all calls that tell what there is.
func (k *tree) look() []call {
	l := append(make([]call, 0, 8*k.m.most+30), many())
	for id := -1; id <= k.m.most+1; id++ {
		l = append(l, kind(id), list(id), size(id), read(id, 0, math.MaxInt), find(id, "."), find(id, ".."), walk(id))
	}
	for _, name := range k.m.names {
		l = append(l, find(name.dir, name.name))
	}
	return l
}

// alike holds all that the tree tells against the slow one.
func (k *tree) alike(behind string) {
	for _, c := range k.look() {
		if got, want := c.do(k.T, k.x), k.m.do(c); !got.is(want) {
			k.Helper()
			k.Fatalf("%v behind %s: %v, want %v", c, behind, got, want)
		}
	}
}

// release drops all that is held, and holds then that nothing else was.
func (k *tree) release(behind string) {
	for id := -1; id <= k.m.most+1; id++ {
		for k.call(drop(id)).no == 0 {
		}
	}
	k.alike(behind + ", with nothing held")
}

// row is a call and what it should answer.
type row struct {
	c    call
	want answer
}

// rows makes calls, one behind the other.
func (k *tree) rows(l ...row) *tree {
	k.Helper()
	for n, r := range l {
		if got := r.c.do(k.T, k.x); !got.is(r.want) {
			k.Fatalf("row %d: %v: %v, want %v", n, r.c, got, r.want)
		}
		if slowly := k.m.do(r.c); !slowly.is(r.want) {
			k.Fatalf("row %d: %v: the slow tree says %v, want %v", n, r.c, slowly, r.want)
		}
		k.alike(r.c.String())
	}
	return k
}

// ids makes files or directories in one, whose numbers go up.
func (k *tree) ids(dir, kind, from int, names ...string) *tree {
	k.Helper()
	for n, name := range names {
		k.rows(row{mk(dir, name, kind), num(from + n)})
	}
	return k
}
