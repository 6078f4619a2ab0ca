package file_test

import (
	"math/big"
	"slices"
	"testing"

	"halter/file"
)

// slow is a table as a list that is gone through from end to end, in the order in which files were opened.
type slow struct {
	most  int
	files []slowFile
}

// slowFile is a file, with how often it was taken (opened, or referred to again) and given back.
type slowFile struct {
	n            int
	f            file.File
	taken, given int
}

// told is the file as it is now.
func (s slowFile) told() file.File { return taken(s.f, s.taken-s.given) }

// fits tells whether a number lies between 0 and 2^30.
func fits(n int) bool { return -1 < n && n < 1073741825 }

// mayBe tells whether a file is valid.
func mayBe(f file.File) bool {
	kinds := []int{0, 1, 2, 3}
	bytes := 0
	for range []byte(f.Name) {
		bytes++
	}
	return slices.Contains(kinds, f.Kind) && fits(f.ID) && fits(f.Off) && bytes < 257
}

// at is where a file is; -1: there is none.
func (m *slow) at(n int) int {
	return slices.IndexFunc(m.files, func(s slowFile) bool { return s.n == n })
}

func (m *slow) do(c call) answer {
	switch c.method {
	case "Open":
		return m.open(c.f)
	case "List":
		return m.list()
	}
	at := m.at(c.n)
	if at < 0 {
		return bad(9)
	}
	s := &m.files[at]
	switch {
	case c.method == "Get":
		return has(s.told())
	case c.method == "Unref":
		return m.unref(at)
	case c.method == "Ref" && s.taken-s.given < 1048576:
		s.taken++
		return done
	case c.method == "Move" && fits(c.off):
		s.f.Off = c.off
		return done
	}
	return bad(22)
}

func (m *slow) open(f file.File) answer {
	if !mayBe(f) {
		return bad(22)
	}
	for n := range m.most {
		if m.at(n) < 0 {
			m.files = append(m.files, slowFile{n: n, f: f, taken: 1})
			return num(n)
		}
	}
	return bad(23)
}

func (m *slow) unref(at int) answer {
	m.files[at].given++
	s := m.files[at]
	if s.taken > s.given {
		return left(s.told())
	}
	m.files = slices.Delete(m.files, at, at+1)
	return last(s.told())
}

func (m *slow) list() answer {
	var l []int
	for n := range m.most {
		if m.at(n) >= 0 {
			l = append(l, n)
		}
	}
	return answer{l: l}
}

// slowSeek is Seek with numbers that can't run over.
func slowSeek(f file.File, off, way, size int) answer {
	switch {
	case f.Kind == 1 || f.Kind == 2:
		return bad(29)
	case !mayBe(f) || !fits(size):
		return bad(22)
	}
	start := 0
	switch way {
	case 0:
	case 1:
		start = f.Off
	case 2:
		start = size
	default:
		return bad(22)
	}
	sum := big.NewInt(int64(off))
	sum.Add(sum, big.NewInt(int64(start)))
	if sum.Sign() < 0 || sum.Cmp(big.NewInt(1<<30)) > 0 {
		return bad(22)
	}
	return num(int(sum.Int64()))
}

// What the slow table does is what it should do.
func TestSlowTable(t *testing.T) {
	a, b := file.File{Kind: 0, ID: 5, Name: "a"}, file.File{Kind: 1, ID: 6, Off: 7, Refs: 99}
	m := slow{most: 2}
	for n, r := range []row{
		{list(), listed()},
		{open(a), num(0)},
		{open(b), num(1)},
		{open(a), bad(23)},
		{open(file.File{Kind: 4}), bad(22)},
		{list(), listed(0, 1)},
		{get(1), has(taken(b, 1))},
		{ref(0), done},
		{get(0), has(taken(a, 2))},
		{unref(0), left(taken(a, 1))},
		{move(0, 9), done},
		{move(0, -1), bad(22)},
		{unref(0), last(moved(a, 9))},
		{unref(0), bad(9)},
		{list(), listed(1)},
		{open(a), num(0)},
		{list(), listed(0, 1)},
		{get(2), bad(9)},
		{move(2, -1), bad(9)},
	} {
		if got := m.do(r.c); !got.is(r.want) {
			t.Errorf("row %d: %v: %v, want %v", n, r.c, got, r.want)
		}
	}
}
