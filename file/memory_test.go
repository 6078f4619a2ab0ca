package file_test

import (
	"slices"
	"strings"
	"testing"
	"unsafe"

	"halter/file"
)

// share tells whether two texts have a byte of memory in common.
func share(s, t string) bool {
	if s == "" || t == "" {
		return false
	}
	from, other := uintptr(unsafe.Pointer(unsafe.StringData(s))), uintptr(unsafe.Pointer(unsafe.StringData(t)))
	return from < other+uintptr(len(t)) && other < from+uintptr(len(s))
}

// changes are calls that change a table with room for four that has samples 0 and 1.
var changes = []call{
	move(0, 9), ref(0), open(sample(2)), move(1, 0), unref(1), open(sample(3)), open(sample(4)), open(sample(5)), ref(1), unref(0), move(0, 7), unref(0), open(sample(6)), unref(3), unref(2), unref(1), open(sample(7)), unref(1), unref(0), unref(2), unref(1),
}

func two(t *testing.T) *table {
	t.Helper()
	k := made(t, 4)
	k.call(open(sample(0)))
	k.call(open(sample(1)))
	return k
}

// Nothing that was answered changes later, nor by what is done to another answer.
func TestAnswersStay(t *testing.T) {
	for first := range changes {
		k := two(t)
		var files, same []file.File
		keep := func(f file.File) {
			files = append(files, f)
			f.Name = strings.Clone(f.Name)
			same = append(same, f)
		}
		for _, c := range changes[:first] {
			a, _ := c.ask(k.x)
			k.m.do(c)
			keep(a.f)
		}
		for n := range 4 {
			f, _ := k.x.Get(n)
			keep(f)
		}
		var lists, alike [][]int
		for range 3 {
			l := k.x.List()
			lists, alike = append(lists, l), append(alike, slices.Clone(l))
		}
		scribbleNumbers(lists[1][:cap(lists[1])])
		k.alike("writing over what was answered")
		for _, c := range changes[first:] {
			k.call(c)
		}
		if !slices.Equal(files, same) {
			t.Fatalf("files are %v now, were %v", files, same)
		}
		for n, l := range lists {
			if n != 1 && !slices.Equal(l, alike[n]) {
				t.Fatalf("numbers are %v now, were %v", l, alike[n])
			}
		}
		if slices.ContainsFunc(lists[1], func(n int) bool { return n != -77 }) {
			t.Fatalf("numbers that were written over are %v now", lists[1])
		}
		k.alike("all calls")
	}
}

// What is answered is changed by nobody but who has it: the table is as it was.
func TestAnswersAreTheirOwn(t *testing.T) {
	k := two(t)
	f, err := k.x.Get(0)
	if err != nil {
		t.Fatal(err)
	}
	f.Kind, f.ID, f.Off, f.Read, f.Write, f.Name, f.Refs = 3, 9, 9, !f.Read, !f.Write, "other", 9
	k.alike("changing what Get answered")
	k.call(ref(0))
	if f, _, err = k.x.Unref(0); err != nil {
		t.Fatal(err)
	}
	k.m.do(unref(0))
	f.Kind, f.ID, f.Off, f.Read, f.Write, f.Name, f.Refs = 3, 9, 9, !f.Read, !f.Write, "other", 9
	k.alike("changing what Unref answered").release("changing what was answered")
}

// No name of an answer lies in a name that was given, nor in a name of another answer.
func TestNamesAreNew(t *testing.T) {
	const room = 8
	whole := lots(64)
	x, err := file.New(room)
	if err != nil {
		t.Fatal(err)
	}
	for n := range room {
		if _, err := x.Open(file.File{Name: whole[n : n+1+3*n]}); err != nil {
			t.Fatal(err)
		}
		if err := x.Ref(n); err != nil {
			t.Fatal(err)
		}
	}
	all := []string{whole}
	keep := func(f file.File, n int, err error) {
		if err != nil || f.Name != whole[n:n+1+3*n] {
			t.Fatalf("file %d: %s, %v", n, told(f), err)
		}
		for _, other := range all {
			if share(f.Name, other) {
				t.Fatalf("%q lies in the memory of %q", f.Name, other)
			}
		}
		all = append(all, f.Name)
	}
	for n := range room {
		for range 3 {
			f, err := x.Get(n)
			keep(f, n, err)
		}
		for range 2 {
			f, _, err := x.Unref(n)
			keep(f, n, err)
		}
	}
}

// A file that was answered can be opened again, and changed by nobody then.
func TestOpenAnAnswer(t *testing.T) {
	k := two(t)
	f, err := k.x.Get(1)
	if err != nil {
		t.Fatal(err)
	}
	k.rows(row{open(f), num(2)}, row{move(2, 3), done}, row{get(1), has(taken(sample(1), 1))}, row{ref(1), done}, row{get(2), has(taken(moved(sample(1), 3), 1))}).release("opening an answer")
}

// What was given can be written over behind each call, one that fails too.
func TestGivenIsNotKept(t *testing.T) {
	k := made(t, 4)
	for range 2 {
		for n, name := range append(slices.Clone(goodNames), badNames...) {
			k.call(open(file.File{Kind: n % 4, ID: n, Name: name})) // its bytes are written over
			k.alike("Open")
			if n%3 == 2 {
				k.call(unref(n % 4))
				k.alike("Unref")
			}
		}
		k.release("all names")
	}
}

// Numbers of one list lie in none of another.
func TestListsAreNew(t *testing.T) {
	k := filled(t, 32)
	for many := 32; many >= 0; many-- {
		one, two := k.x.List(), k.x.List()
		scribbleNumbers(one[:cap(one)])
		if got := (answer{l: two}); !got.is(k.m.do(list())) {
			t.Fatalf("List with %d files: %v when another list is written over", many, two)
		}
		k.alike("List")
		k.call(unref(many - 1))
	}
}

// Tables know nothing of each other.
func TestTwoTables(t *testing.T) {
	one, other := made(t, 3), made(t, 3)
	for i := range 6 {
		for n, c := range changes {
			one.call(c)
			if (n+i)%2 == 0 {
				other.call(c)
			} else {
				other.call(open(sample(30 + n)))
			}
			one.alike(c.String())
			other.alike(c.String())
		}
	}
	one.release("the calls")
	other.alike("the release of another one").release("the calls")
}

// The same calls have the same answers in another table, whatever was done in between.
func TestAgain(t *testing.T) {
	var before []answer
	for round := range 5 {
		k := two(t)
		for n, c := range changes {
			got := k.call(c)
			if round == 0 {
				before = append(before, got)
			} else if !got.is(before[n]) {
				t.Fatalf("%v: %v, was %v before", c, got, before[n])
			}
		}
		k.alike("all calls")
	}
}
