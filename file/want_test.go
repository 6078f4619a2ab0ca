package file_test

import (
	"errors"
	"fmt"
	"math"
	"slices"
	"strings"
	"testing"
	"unsafe"

	"halter/api"
	"halter/file"
)

const (
	mostNumber = 1073741824 // as an ID, an offset or a size
	mostRefs   = 1048576
)

// call is one of a method; most methods have no use for some of its parts.
type call struct {
	method string
	f      file.File
	n, off int
}

func open(f file.File) call { return call{method: "Open", f: f} }
func get(n int) call        { return call{method: "Get", n: n} }
func ref(n int) call        { return call{method: "Ref", n: n} }
func unref(n int) call      { return call{method: "Unref", n: n} }
func move(n, off int) call  { return call{method: "Move", n: n, off: off} }
func list() call            { return call{method: "List"} }

// told is a file of whose name there is no more than can be read.
func told(f file.File) string {
	if len(f.Name) > 30 {
		f.Name = fmt.Sprintf("%.20s.. (%d)", f.Name, len(f.Name))
	}
	return fmt.Sprintf("{kind %d, id %d, off %d, read %v, write %v, %q, refs %d}", f.Kind, f.ID, f.Off, f.Read, f.Write, f.Name, f.Refs)
}

func (c call) String() string {
	switch c.method {
	case "Open":
		return fmt.Sprintf("Open(%s)", told(c.f))
	case "Move":
		return fmt.Sprintf("Move(%d, %d)", c.n, c.off)
	case "List":
		return "List()"
	}
	return fmt.Sprintf("%s(%d)", c.method, c.n)
}

// answer is what a call answers; no is the number of its error, 0: it has none.
type answer struct {
	n    int
	f    file.File
	gone bool
	l    []int
	no   int
}

// done is the answer of a call that has nothing to tell.
var done = answer{}

func num(n int) answer        { return answer{n: n} }
func bad(no int) answer       { return answer{no: no} }
func has(f file.File) answer  { return answer{f: f} }
func left(f file.File) answer { return answer{f: f} }
func last(f file.File) answer { return answer{f: f, gone: true} }
func listed(l ...int) answer  { return answer{l: l} }
func (a answer) String() string {
	return fmt.Sprintf("%d, %s, gone %v, %v, error %d", a.n, told(a.f), a.gone, a.l, a.no)
}

func (a answer) is(o answer) bool {
	return a.n == o.n && a.f == o.f && a.gone == o.gone && a.no == o.no && slices.Equal(a.l, o.l)
}

// number is that of an error; -1: it has none.
func number(err error) int {
	var no api.Errno
	switch {
	case err == nil:
		return 0
	case errors.As(err, &no) && no != 0:
		return int(no)
	}
	return -1
}

// lent is a text that lies in bytes, so that it can be written over.
func lent(s string) (string, []byte) {
	b := []byte(s)
	return unsafe.String(unsafe.SliceData(b), len(b)), b
}

func scribble(b []byte) {
	for i := range b {
		b[i] = '?'
	}
}

func scribbleNumbers(l []int) {
	for i := range l {
		l[i] = -77
	}
}

// ask calls the method: what it answers, as it is.
func (c call) ask(x *file.Table) (answer, error) {
	var a answer
	var err error
	switch c.method {
	case "Open":
		a.n, err = x.Open(c.f)
	case "Get":
		a.f, err = x.Get(c.n)
	case "Ref":
		err = x.Ref(c.n)
	case "Unref":
		a.f, a.gone, err = x.Unref(c.n)
	case "Move":
		err = x.Move(c.n, c.off)
	case "List":
		a.l = x.List()
	}
	a.no = number(err)
	return a, err
}

// do makes a call. The name that it is given must stay as it is and is written over afterwards, and so is the list that it answers, with its spare room: a table that kept any of it is not what it should be then.
func (c call) do(t *testing.T, x *file.Table) answer {
	d := c
	name, nameBytes := lent(c.f.Name)
	d.f.Name = name
	a, _ := d.ask(x)
	if string(nameBytes) != c.f.Name {
		t.Helper()
		t.Errorf("%v: the name that it was given is %q now", c, nameBytes)
	}
	got := a
	got.f.Name, got.l = strings.Clone(a.f.Name), slices.Clone(a.l)
	scribble(nameBytes)
	scribbleNumbers(a.l[:cap(a.l)])
	return got
}

// table is one, and the slow one that should be as it is.
type table struct {
	*testing.T
	x *file.Table
	m slow
}

// made is a table with room for so many.
func made(t *testing.T, most int) *table {
	t.Helper()
	x, err := file.New(most)
	if err != nil || x == nil {
		t.Fatalf("New(%d): %v, %v", most, x, err)
	}
	return &table{t, x, slow{most: most}}
}

// call makes a call with both tables.
func (k *table) call(c call) answer {
	got, want := c.do(k.T, k.x), k.m.do(c)
	if !got.is(want) {
		k.Helper()
		k.Fatalf("%v: %v, want %v", c, got, want)
	}
	return got
}

// alike holds all that the table tells against the slow one.
func (k *table) alike(behind string) *table {
	k.Helper()
	for n := -1; n <= k.m.most+1; n++ {
		k.tells(get(n), behind)
	}
	k.tells(list(), behind)
	return k
}

func (k *table) tells(c call, behind string) {
	if got, want := c.do(k.T, k.x), k.m.do(c); !got.is(want) {
		k.Helper()
		k.Fatalf("%v behind %s: %v, want %v", c, behind, got, want)
	}
}

// release gives back all that there is, as often as it can be, and holds then that nothing else was.
func (k *table) release(behind string) {
	k.Helper()
	for n := -1; n <= k.m.most+1; n++ {
		for k.call(unref(n)).no == 0 {
		}
	}
	k.alike(behind + ", with all given back")
	if got := list().do(k.T, k.x); len(got.l) > 0 {
		k.Fatalf("List behind %s, with all given back: %v", behind, got.l)
	}
}

// row is a call and what it should answer.
type row struct {
	c    call
	want answer
}

// rows makes calls, one behind the other.
func (k *table) rows(l ...row) *table {
	k.Helper()
	for n, r := range l {
		if got := r.c.do(k.T, k.x); !got.is(r.want) {
			k.Fatalf("row %d: %v: %v, want %v", n, r.c, got, r.want)
		}
		if slowly := k.m.do(r.c); !slowly.is(r.want) {
			k.Fatalf("row %d: %v: the slow table says %v, want %v", n, r.c, slowly, r.want)
		}
		k.alike(r.c.String())
	}
	return k
}

// all are calls, each of which should have an error.
func (k *table) all(no int, l ...call) {
	k.Helper()
	for _, c := range l {
		k.rows(row{c, bad(no)})
	}
}

// filled is a table with room for so many that is full; each file is another one.
func filled(t *testing.T, most int) *table {
	t.Helper()
	k := made(t, most)
	for n := range most {
		k.rows(row{open(sample(n)), num(n)})
	}
	return k
}

// sample is a valid file; no two of them are alike.
func sample(n int) file.File {
	return file.File{Kind: n % 4, ID: 100 + n, Off: 1000 * n, Read: n%2 == 0, Write: n%3 == 0, Name: fmt.Sprintf("%d/sample", n)}
}

// taken is a file with so many Refs.
func taken(f file.File, refs int) file.File {
	f.Refs = refs
	return f
}

// moved is a file with another Off.
func moved(f file.File, off int) file.File {
	f.Off = off
	return f
}

// The numbers that an ID, an offset or a size can be, and those that can't: the limits, and numbers that are good ones modulo a power of two.
var (
	goodNumbers = []int{0, 1, 2, 255, 256, 65535, 65536, mostNumber - 2, mostNumber - 1, mostNumber}
	badNumbers  = []int{-1, -2, -256, -mostNumber, -mostNumber - 1, math.MinInt32, -1 << 32, -1<<32 + 1, math.MinInt, math.MinInt + 1, mostNumber + 1, mostNumber + 2, 2*mostNumber - 1, 2 * mostNumber, 1 << 32, 1<<32 + 1, 1<<32 + mostNumber, math.MaxInt - 1, math.MaxInt}
)

// The other parts of a file that can't be, and those that can.
var (
	badKinds  = []int{-1, -2, -4, math.MinInt32, math.MinInt, -1 << 32, 4, 5, 7, 8, 255, 256, 257, 1 << 16, 1<<16 + 1, 1<<31 + 1, 1<<31 + 2, 1 << 32, 1<<32 + 1, 1<<32 + 2, 1<<32 + 3, math.MinInt + 1, math.MinInt + 2, math.MaxInt}
	badNames  = []string{lots(257), lots(258), lots(511), lots(512), lots(513), lots(4096), lots(1 << 16), lots(1<<16 + 1), strings.Repeat("\u00e9", 129), strings.Repeat("\u20ac", 86), strings.Repeat("\U00010000", 65), strings.Repeat("\x00", 257), strings.Repeat("\xff", 257)}
	goodNames = []string{"", "a", lots(2), lots(254), lots(255), lots(256), "with blanks, / and \x00", "\xff\xfe", strings.Repeat("\u00e9", 128), strings.Repeat("\u20ac", 85), strings.Repeat("\x00", 256), strings.Repeat("\xff", 256)}
)

// lots is a text of so many bytes, no two alike that are near each other.
func lots(many int) string {
	b := make([]byte, many)
	for i := range b {
		b[i] = byte('a' + i*7%26)
	}
	return string(b)
}

// notValid are files that are not, each for one reason alone.
func notValid() []file.File {
	var l []file.File
	for kind := range 4 {
		for _, n := range badNumbers {
			l = append(l, file.File{Kind: kind, ID: n}, file.File{Kind: kind, Off: n}, file.File{Kind: kind, ID: n, Off: mostNumber, Name: lots(256), Refs: 1}, file.File{Kind: kind, ID: mostNumber, Off: n, Read: true, Write: true})
		}
		for _, name := range badNames {
			l = append(l, file.File{Kind: kind, Name: name}, file.File{Kind: kind, ID: mostNumber, Off: mostNumber, Read: true, Name: name, Refs: 1})
		}
	}
	for _, kind := range badKinds {
		l = append(l, file.File{Kind: kind}, file.File{Kind: kind, ID: mostNumber, Off: mostNumber, Write: true, Name: lots(256), Refs: 1})
	}
	return l
}

// strangers are numbers that no file has in a table with room for so many.
func strangers(most int) []int {
	return []int{
		math.MinInt, math.MinInt + 1, -1 << 32, -1<<32 + 1, math.MinInt32, -257, -256, -33, -32, -most - 1, -most, -2, -1,
		most, most + 1, 2 * most, 32, 33, 63, 64, 255, 256, 257, 1 << 16, math.MaxInt32, 1 << 31, 1 << 32, 1<<32 + 1, math.MaxInt - 1, math.MaxInt,
	}
}
