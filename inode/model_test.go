package inode_test

import (
	"slices"
	"strings"
	"testing"

	"halter/inode"
)

// letters are the bytes of names, as chapter 16 lists them.
const letters = "abcdefghijklmnopqrstuvwxyz0123456789._-"

// slow is a tree as lists that are gone through from end to end.
type slow struct {
	most  int
	nodes []slowNode
	names []slowName
}

type slowNode struct {
	id, kind, parent, holds int
	data                    []byte
}

type slowName struct {
	dir  int
	name string
	id   int
}

func newSlow(most int) slow {
	return slow{most: most, nodes: []slowNode{{id: 1, kind: 1, parent: 1}}}
}

// at is where a node is; -1: there is none.
func (m *slow) at(id int) int {
	return slices.IndexFunc(m.nodes, func(n slowNode) bool { return n.id == id })
}

// called is where a name of a directory is; -1: there is none.
func (m *slow) called(dir int, name string) int {
	return slices.IndexFunc(m.names, func(n slowName) bool { return n.dir == dir && n.name == name })
}

// hasName tells whether a node has one.
func (m *slow) hasName(id int) bool {
	return id == 1 || slices.ContainsFunc(m.names, func(n slowName) bool { return n.id == id })
}

// hasNames tells whether there are some in a node.
func (m *slow) hasNames(id int) bool {
	return slices.ContainsFunc(m.names, func(n slowName) bool { return n.dir == id })
}

// sweep removes what has no name and is not held.
func (m *slow) sweep() {
	m.nodes = slices.DeleteFunc(m.nodes, func(n slowNode) bool { return !m.hasName(n.id) && n.holds == 0 })
}

// wrongName is the error of a name, by chapter 16.
func wrongName(name string) int {
	switch {
	case name == "":
		return 2
	case len(name) > 16:
		return 36
	}
	for i := range len(name) {
		if strings.IndexByte(letters, name[i]) < 0 {
			return 22
		}
	}
	return 0
}

// lacks is the error of a call that its number is to blame for, and that of wrong offsets, which comes first.
func (m *slow) lacks(c call) int {
	ofFile := slices.Contains([]string{"Read", "Write", "Cut", "Size"}, c.method)
	ofFolder := slices.Contains([]string{"Find", "Walk", "Make", "Unlink", "List"}, c.method)
	at := m.at(c.id)
	switch {
	case c.method == "Read" && (c.off < 0 || c.n < 0), c.method == "Write" && c.off < 0:
		return 22
	case at < 0:
		return 2
	case ofFolder && m.nodes[at].kind != 1:
		return 20
	case ofFile && m.nodes[at].kind != 0:
		return 21
	}
	return 0
}

func (m *slow) do(c call) answer {
	if c.method == "Many" {
		return num(len(m.nodes))
	}
	if no := m.lacks(c); no != 0 {
		return bad(no)
	}
	n := &m.nodes[m.at(c.id)]
	switch c.method {
	case "Kind":
		return num(n.kind)
	case "Find":
		return m.find(c.id, c.name)
	case "Walk":
		return m.walk(c.id, c.names)
	case "Make":
		return m.make(c.id, c.name, c.n)
	case "Unlink":
		return m.unlink(c.id, c.name)
	case "Hold":
		n.holds++
	case "Drop":
		if n.holds == 0 {
			return bad(22)
		}
		n.holds--
		m.sweep()
	case "Read":
		return n.read(c.off, c.n)
	case "Write":
		return n.write(c.off, c.b)
	case "Cut":
		n.data = []byte{}
	case "Size":
		return num(len(n.data))
	case "List":
		return m.list(c.id)
	}
	return done
}

func (m *slow) find(dir int, name string) answer {
	switch {
	case name == ".":
		return num(dir)
	case name == "..":
		return num(m.nodes[m.at(dir)].parent)
	}
	at := m.called(dir, name)
	if at < 0 {
		return bad(2)
	}
	return num(m.names[at].id)
}

func (m *slow) walk(dir int, names []string) answer {
	if len(names) == 0 {
		return num(dir)
	}
	first := m.do(find(dir, names[0]))
	if first.no != 0 || len(names) == 1 {
		return first
	}
	return m.do(walk(first.n, names[1:]...))
}

func (m *slow) make(dir int, name string, kind int) answer {
	switch {
	case wrongName(name) != 0:
		return bad(wrongName(name))
	case name == "." || name == ".." || m.called(dir, name) >= 0:
		return bad(17)
	case kind != 0 && kind != 1:
		return bad(22)
	case !m.hasName(dir):
		return bad(2)
	case len(m.nodes) == m.most:
		return bad(28)
	}
	id := 1
	for m.at(id) >= 0 {
		id++
	}
	m.nodes = append(m.nodes, slowNode{id: id, kind: kind, parent: dir})
	m.names = append(m.names, slowName{dir, name, id})
	return num(id)
}

func (m *slow) unlink(dir int, name string) answer {
	at := m.called(dir, name)
	switch {
	case name == "." || name == "..":
		return bad(22)
	case at < 0:
		return bad(2)
	case m.hasNames(m.names[at].id):
		return bad(39)
	}
	m.names = slices.Delete(m.names, at, at+1)
	m.sweep()
	return done
}

func (m *slow) list(dir int) answer {
	var l []string
	for _, name := range m.names {
		if name.dir != dir {
			continue
		}
		at := 0
		for at < len(l) && l[at] < name.name {
			at++
		}
		l = slices.Insert(l, at, name.name)
	}
	return answer{l: l}
}

func (n *slowNode) read(off, most int) answer {
	var b []byte
	for i := off; i < len(n.data) && len(b) < most; i++ {
		b = append(b, n.data[i])
	}
	return answer{b: b}
}

func (n *slowNode) write(off int, b []byte) answer {
	if len(b) > 0 && off >= 4096 {
		return bad(28)
	}
	stored := 0
	for i := range b {
		if off+i == 4096 {
			break
		}
		for len(n.data) <= off+i {
			n.data = append(n.data, 0)
		}
		n.data[off+i] = b[i]
		stored++
	}
	return num(stored)
}

// What the slow tree does is what it should do.
func TestSlowTree(t *testing.T) {
	m := newSlow(4)
	for n, r := range []row{
		{mk(1, "b", inode.Folder), num(2)},
		{mk(2, "x", inode.File), num(3)},
		{mk(1, "a", inode.File), num(4)},
		{mk(1, "c", inode.File), bad(28)},
		{list(1), listed("a", "b")},
		{walk(1, "b", "..", "b", "x"), num(3)},
		{write(3, 2, "xyz"), num(3)},
		{read(3, 1, 3), text("\x00xy")},
		{unlink(1, "b"), bad(39)},
		{hold(3), done},
		{unlink(2, "x"), done},
		{unlink(1, "b"), done},
		{many(), num(3)},
		{size(3), num(5)},
		{drop(3), done},
		{many(), num(2)},
		{kind(3), bad(2)},
	} {
		if got := m.do(r.c); !got.is(r.want) {
			t.Errorf("row %d: %v: %v, want %v", n, r.c, got, r.want)
		}
	}
}
