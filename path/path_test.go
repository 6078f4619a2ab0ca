package path_test

import (
	"fmt"
	"slices"
	"strings"
	"testing"
)

// letters are the bytes of names, as the chapter lists them.
const letters = "abcdefghijklmnopqrstuvwxyz0123456789._-"

const (
	sixteen   = "abcdefgh.0_9-xyz"
	seventeen = "abcdefgh.0_9-xyz7"
)

// eight are as many names as a path may have.
const eight = "a/b/c/d/e/f/g/h"

// TestExample is the chapter's own.
func TestExample(t *testing.T) {
	wantSplit(t, "/a//b/", []string{"a", "b"}, true, 0)
	wantLast(t, "/a//b/", "b", "/a//", 0)
}

func TestPA1Check(t *testing.T) {
	for _, r := range []struct {
		name string
		no   int
	}{
		{"a", 0}, {"m", 0}, {"z", 0}, {"0", 0}, {"5", 0}, {"9", 0},
		{".", 0}, {"..", 0}, {"...", 0}, {"....", 0}, {"_", 0}, {"-", 0}, {"--", 0},
		{"init", 0}, {"a.b", 0}, {".a", 0}, {"a.", 0}, {"..a", 0}, {"a..", 0}, {"-a", 0}, {"_a", 0}, {"007", 0}, {"a_b-c.9", 0},
		{"abcdefghijklmnop", 0}, {"qrstuvwxyz", 0}, {"0123456789._-", 0}, {sixteen, 0}, {"................", 0}, {"----------------", 0},

		{"", 2},

		{seventeen, 36}, {"abcdefghijklmnopq", 36}, {".................", 36}, {sixteen + sixteen, 36}, {sixteen + sixteen + "a", 36},

		{"/", 22}, {"//", 22}, {"a/", 22}, {"/a", 22}, {"a/b", 22}, {"../a", 22}, {"./", 22},
		{"A", 22}, {"Z", 22}, {"Init", 22}, {"iniT", 22}, {"inIt", 22},
		{" ", 22}, {"a b", 22}, {" a", 22}, {"a ", 22}, {"\t", 22}, {"a\n", 22}, {"\x00", 22}, {"a\x00", 22}, {"\x00a", 22}, {"a\x00b", 22},
		{"\xff", 22}, {"a\xff", 22}, {"\x80", 22}, {"\xc0\xaf", 22}, {"*", 22}, {"a,b", 22}, {"a:b", 22}, {"a+b", 22}, {"~", 22}, {"\\", 22}, {"a`", 22}, {"{a}", 22},
		{"é", 22}, {"aé", 22}, {"ß", 22}, {"ａ", 22}, {"０", 22}, {"١", 22}, {"…", 22}, {"‐", 22}, {"∕", 22}, {"\u012f", 22}, {"\u0161", 22}, {"\u0230", 22}, {"\U0001f600", 22},
		{"ABCDEFGHIJKLMNOP", 22}, {"éééééééé", 22}, {"abcdefghijklmno/", 22}, {"/bcdefghijklmnop", 22},

		// Too long as well: that comes first. Runes are of no account.
		{"ABCDEFGHIJKLMNOPQ", 36}, {"Abcdefghijklmnopq", 36}, {"abcdefghijklmnopQ", 36}, {"abcdefghIjklmnopq", 36}, {sixteen + "/", 36}, {"/" + sixteen, 36},
		{"ééééééééa", 36}, {"aéééééééé", 36}, {"ééééééééé", 36}, {"\x00\x00\x00\x00\x00\x00\x00\x00\x00\x00\x00\x00\x00\x00\x00\x00\x00", 36}, {"/////////////////", 36},
	} {
		wantCheck(t, r.name, r.no)
	}
}

// Each byte as a name, and in each place of one.
func TestPA1Bytes(t *testing.T) {
	for b := range 256 {
		no := 22
		if strings.IndexByte(letters, byte(b)) >= 0 {
			no = 0
		}
		for size := 1; size <= 16; size++ {
			for place := range size {
				wantCheck(t, with(sixteen[:size], place, byte(b)), no)
			}
		}
		for place := range 17 {
			wantCheck(t, with(seventeen, place, byte(b)), 36)
		}
	}
}

// Two bytes in a row, so that neither is taken for a part of something with the other.
func TestPA1PairsOfBytes(t *testing.T) {
	for b := range 256 {
		for c := range 256 {
			no := 22
			if strings.IndexByte(letters, byte(b)) >= 0 && strings.IndexByte(letters, byte(c)) >= 0 {
				no = 0
			}
			wantCheck(t, string([]byte{byte(b), byte(c)}), no)
		}
	}
}

func TestPA1Sizes(t *testing.T) {
	for _, size := range sizes {
		no := 0
		switch {
		case size == 0:
			no = 2
		case size > 16:
			no = 36
		}
		for _, letter := range []string{"a", "z", "0", ".", "_", "-"} {
			wantCheck(t, strings.Repeat(letter, size), no)
		}
		if no == 0 {
			no = 22
		}
		for _, letter := range []string{"A", "/", " ", "\x00", "\xff"} {
			wantCheck(t, strings.Repeat(letter, size), no)
		}
	}
}

func TestPA1Split(t *testing.T) {
	for _, r := range []struct {
		p     string
		names []string
		root  bool
	}{
		{"a", []string{"a"}, false},
		{"/a", []string{"a"}, true},
		{"a/", []string{"a"}, false},
		{"/a/", []string{"a"}, true},
		{"//a", []string{"a"}, true},
		{"a//", []string{"a"}, false},
		{"///a////", []string{"a"}, true},
		{"a/b", []string{"a", "b"}, false},
		{"/a/b", []string{"a", "b"}, true},
		{"a/b/", []string{"a", "b"}, false},
		{"/a/b/", []string{"a", "b"}, true},
		{"a//b", []string{"a", "b"}, false},
		{"//a//b//", []string{"a", "b"}, true},
		{"b/a", []string{"b", "a"}, false},
		{"a/a/a", []string{"a", "a", "a"}, false},
		{"a///b/c//d", []string{"a", "b", "c", "d"}, false},
		{"/proc/12/mem", []string{"proc", "12", "mem"}, true},
		{"/etc/a_b-c.9", []string{"etc", "a_b-c.9"}, true},
		{"0/9/z", []string{"0", "9", "z"}, false},
		{"_/-/--", []string{"_", "-", "--"}, false},

		{"/", nil, true},
		{"//", nil, true},
		{"/////////", nil, true},
		{strings.Repeat("/", 1000), nil, true},

		{".", []string{"."}, false},
		{"..", []string{".."}, false},
		{"...", []string{"..."}, false},
		{"/.", []string{"."}, true},
		{"/..", []string{".."}, true},
		{"/...", []string{"..."}, true},
		{"./", []string{"."}, false},
		{"../", []string{".."}, false},
		{"./a", []string{".", "a"}, false},
		{"../a", []string{"..", "a"}, false},
		{"a/.", []string{"a", "."}, false},
		{"a/..", []string{"a", ".."}, false},
		{"a/../", []string{"a", ".."}, false},
		{"a/./b", []string{"a", ".", "b"}, false},
		{"a/../b", []string{"a", "..", "b"}, false},
		{"a/.../b", []string{"a", "...", "b"}, false},
		{"/../..//.", []string{"..", "..", "."}, true},
		{"./././././././.", []string{".", ".", ".", ".", ".", ".", ".", "."}, false},

		{eight, []string{"a", "b", "c", "d", "e", "f", "g", "h"}, false},
		{"/" + eight, []string{"a", "b", "c", "d", "e", "f", "g", "h"}, true},
		{eight + "/", []string{"a", "b", "c", "d", "e", "f", "g", "h"}, false},
		{"///" + eight + strings.Repeat("/", 20), []string{"a", "b", "c", "d", "e", "f", "g", "h"}, true},
		{"a////b////c////d////e////f////g////h", []string{"a", "b", "c", "d", "e", "f", "g", "h"}, false},
		{sixteen, []string{sixteen}, false},
		{"/" + sixteen + "/", []string{sixteen}, true},
		{sixteen + "/" + sixteen, []string{sixteen, sixteen}, false},
		{strings.Repeat(sixteen+"//", 8), slices.Repeat([]string{sixteen}, 8), false},
	} {
		wantSplit(t, r.p, r.names, r.root, 0)
	}
}

// badPaths are none, and which error they have.
var badPaths = []struct {
	p  string
	no int
}{
	{"", 2},

	{"A", 22}, {"/A", 22}, {"A/", 22}, {"/A/", 22}, {"a/B", 22}, {"A/b", 22}, {"a/B/c", 22}, {" ", 22}, {"/ ", 22}, {" /", 22}, {" /a", 22}, {"a/ ", 22}, {"a/b ", 22}, {"a /b", 22}, {"a\n", 22},
	{"a/\xff/b", 22}, {"\xff", 22}, {"/\xff", 22}, {"a\\b", 22}, {"\\", 22}, {"a:b", 22}, {"a\x00/b", 22}, {"\x00", 22}, {"/\x00", 22}, {"\x00/", 22}, {"a/b\x00", 22}, {"a/\x00/b", 22},
	// What looks like a slash to some is none.
	{"a\xc0\xafb", 22}, {"\xc0\xaf", 22}, {"a\xe0\x80\xafb", 22}, {"a∕b", 22}, {"a⁄b", 22}, {"a／b", 22}, {"a\u012fb", 22}, {"\u012f", 22}, {"a\u2f00b", 22}, {"a\u2f2fb", 22}, {"a\xafb", 22}, {"a\xc3", 22}, {"a\xc3/b", 22},
	{"é", 22}, {"a/é", 22}, {"é/a", 22}, {"/é/", 22},

	{seventeen, 36}, {"/" + seventeen, 36}, {seventeen + "/", 36}, {"a/" + seventeen, 36}, {seventeen + "/a", 36}, {"a/" + seventeen + "/b", 36}, {".................", 36},
	{"ABCDEFGHIJKLMNOPQ", 36}, {"a/ABCDEFGHIJKLMNOPQ", 36}, {"/ééééééééé", 36}, {sixteen + sixteen + sixteen, 36},

	// The first bad name of several.
	{"A/" + seventeen, 22}, {seventeen + "/A", 36}, {"A/b/" + seventeen, 22}, {"a/" + seventeen + "/B", 36}, {"a/B/" + seventeen, 22}, {"//A//" + seventeen, 22}, {"A/ABCDEFGHIJKLMNOPQ", 22}, {"ABCDEFGHIJKLMNOPQ/A", 36},
	{"../A/" + seventeen, 22}, {"../" + seventeen + "/A", 36}, {"A/" + seventeen + "/A", 22}, {seventeen + "/A/" + seventeen, 36},

	// Too many names: that is ahead of what is wrong with any of them.
	{eight + "/i", 90}, {"/" + eight + "/i", 90}, {eight + "/i/", 90}, {"///" + eight + "///i///", 90}, {eight + "/i/j", 90}, {eight + "/.", 90}, {eight + "/..", 90}, {"../" + eight, 90},
	{eight + "/A", 90}, {"A/" + eight, 90}, {eight + "/" + seventeen, 90}, {seventeen + "/" + eight, 90}, {"A/B/C/D/E/F/G/H/I", 90}, {"a/b/c/d/E/f/g/h/i", 90}, {eight + "/" + eight, 90}, {eight + "/\xff", 90}, {"\xff/" + eight, 90}, {eight + "/\x00", 90},
	{strings.Repeat(seventeen+"/", 9), 90}, {strings.Repeat("/a", 9), 90}, {strings.Repeat("./", 9), 90}, {strings.Repeat("/A", 100), 90}, {strings.Repeat("a/", 10000), 90}, {strings.Repeat("a/", 264), 90}, {strings.Repeat("a/", 256), 90},
	// Eight are not too many.
	{"a/b/c/d/e/f/g/H", 22}, {"A/b/c/d/e/f/g/h", 22}, {"A/b/c/d/e/f/g/" + seventeen, 22}, {seventeen + "/b/c/d/e/f/g/H", 36}, {"///A///B///C///D///E///F///G///H///", 22}, {strings.Repeat(seventeen+"/", 8), 36},
}

func TestPA1NoPaths(t *testing.T) {
	for _, r := range badPaths {
		wantSplit(t, r.p, nil, false, r.no)
	}
}

// Every byte is a letter of a name, parts names, or is wrong; also beside names and between them.
func TestPA1BytesOfPaths(t *testing.T) {
	for b := range 256 {
		s := string([]byte{byte(b)})
		no := 22
		if strings.Contains(letters, s) {
			no = 0
		}
		if s == "/" {
			continue // whose paths the other tests have
		}
		for _, r := range []struct {
			p     string
			names []string
			root  bool
		}{
			{s, []string{s}, false},
			{"/" + s, []string{s}, true},
			{s + "/", []string{s}, false},
			{"a" + s + "b", []string{"a" + s + "b"}, false},
			{"/a" + s + "//", []string{"a" + s}, true},
			{s + "a/b", []string{s + "a", "b"}, false},
			{"a//b/" + s, []string{"a", "b", s}, false},
			{"a/" + s + "/b", []string{"a", s, "b"}, false},
		} {
			if no != 0 {
				r.names, r.root = nil, false
			}
			wantSplit(t, r.p, r.names, r.root, no)
		}
	}
}

// Names of every size, in each place of paths with every number of names.
func TestPA1SizesInPaths(t *testing.T) {
	for many := 1; many <= 9; many++ {
		for place := range many {
			for _, size := range sizes[1:] {
				names := slices.Repeat([]string{"a"}, many)
				names[place] = strings.Repeat("b", size)
				no := 0
				switch {
				case many > 8:
					no = 90
				case size > 16:
					no = 36
				}
				for _, between := range []string{"/", "//", "///////"} {
					for _, root := range []bool{true, false} {
						p := strings.Join(names, between)
						if root {
							p = between + p
						}
						if no == 0 {
							wantSplit(t, p, names, root, 0)
							wantSplit(t, p+between, names, root, 0)
							continue
						}
						wantSplit(t, p, nil, false, no)
						wantSplit(t, p+between, nil, false, no)
					}
				}
			}
		}
	}
}

// However many names a path has, also where their number is a small one modulo 2^8 or 2^16.
func TestPA1ManyNames(t *testing.T) {
	for _, many := range []int{0, 1, 2, 7, 8, 9, 10, 16, 17, 64, 255, 256, 257, 264, 265, 1 << 16, 1<<16 + 1, 1<<16 + 8, 1<<16 + 9} {
		for _, name := range []string{"a", "..", "A", seventeen} {
			names, p := slices.Repeat([]string{name}, many), strings.Repeat("/"+name, many)+"/"
			no := 0
			switch {
			case many > 8:
				no = 90
			case many > 0 && name == "A":
				no = 22
			case many > 0 && name == seventeen:
				no = 36
			}
			if no != 0 {
				wantSplit(t, p, nil, false, no)
				wantSplit(t, p[1:], nil, false, no)
				wantJoin(t, names, "", no)
				wantLast(t, p, "", "", no)
				continue
			}
			wantSplit(t, p, names, true, 0)
			wantJoin(t, names, "/"+strings.Join(names, "/"), 0)
		}
	}
}

func TestPA2Join(t *testing.T) {
	for _, r := range []struct {
		l []string
		p string
	}{
		{nil, "/"},
		{[]string{}, "/"},
		{make([]string, 0, 9), "/"},
		{[]string{"a"}, "/a"},
		{[]string{"a", "b"}, "/a/b"},
		{[]string{"b", "a"}, "/b/a"},
		{[]string{"a", "a", "a"}, "/a/a/a"},
		{[]string{"proc", "12", "mem"}, "/proc/12/mem"},
		{[]string{"a_b-c.9", "_", "-", "0"}, "/a_b-c.9/_/-/0"},
		{[]string{"."}, "/."},
		{[]string{".."}, "/.."},
		{[]string{"..."}, "/..."},
		{[]string{".", ".."}, "/./.."},
		{[]string{"a", "..", "b"}, "/a/../b"},
		{[]string{"a", ".", "b"}, "/a/./b"},
		{[]string{sixteen}, "/" + sixteen},
		{[]string{"a", sixteen, "b"}, "/a/" + sixteen + "/b"},
		{[]string{"a", "b", "c", "d", "e", "f", "g"}, "/a/b/c/d/e/f/g"},
		{[]string{"a", "b", "c", "d", "e", "f", "g", "h"}, "/a/b/c/d/e/f/g/h"},
		{slices.Repeat([]string{sixteen}, 8), strings.Repeat("/"+sixteen, 8)},
	} {
		wantJoin(t, r.l, r.p, 0)
	}
}

func TestPA2NoJoin(t *testing.T) {
	for _, r := range []struct {
		l  []string
		no int
	}{
		{[]string{""}, 2}, {[]string{"", ""}, 2}, {[]string{"", "a"}, 2}, {[]string{"a", ""}, 2}, {[]string{"a", "", "b"}, 2}, {make([]string, 8), 2},
		{[]string{"A"}, 22}, {[]string{"a", "B"}, 22}, {[]string{"A", "b"}, 22}, {[]string{"a", "B", "c"}, 22}, {[]string{"a b"}, 22}, {[]string{"\x00"}, 22}, {[]string{"\xff"}, 22}, {[]string{"é"}, 22},
		// A path is not a name.
		{[]string{"/"}, 22}, {[]string{"/a"}, 22}, {[]string{"a/"}, 22}, {[]string{"a/b"}, 22}, {[]string{"a", "b/c"}, 22}, {[]string{"..", "/"}, 22}, {[]string{"/", "a"}, 22},
		{[]string{seventeen}, 36}, {[]string{"a", seventeen}, 36}, {[]string{seventeen, "a"}, 36}, {[]string{"ABCDEFGHIJKLMNOPQ"}, 36}, {[]string{sixteen + "/"}, 36}, {[]string{eight + "/i"}, 36},
		// The first bad name of several.
		{[]string{"", "A"}, 2}, {[]string{"", seventeen}, 2}, {[]string{"A", ""}, 22}, {[]string{"A", seventeen}, 22}, {[]string{seventeen, ""}, 36}, {[]string{seventeen, "A"}, 36},
		{[]string{"a", "", "A", seventeen}, 2}, {[]string{"a", "A", "", seventeen}, 22}, {[]string{"a", seventeen, "A", ""}, 36}, {[]string{"a/b", "", seventeen}, 22},
		// Too many names: that is ahead of what is wrong with any of them.
		{[]string{"a", "b", "c", "d", "e", "f", "g", "h", "i"}, 90}, {make([]string, 9), 90}, {slices.Repeat([]string{"A"}, 9), 90}, {slices.Repeat([]string{seventeen}, 9), 90}, {slices.Repeat([]string{".."}, 9), 90},
		{[]string{"", "b", "c", "d", "e", "f", "g", "h", "i"}, 90}, {[]string{"A", "b", "c", "d", "e", "f", "g", "h", "i"}, 90}, {[]string{seventeen, "b", "c", "d", "e", "f", "g", "h", "i"}, 90},
		{[]string{"a", "b", "c", "d", "e", "f", "g", "h", ""}, 90}, {[]string{"a", "b", "c", "d", "e", "f", "g", "h", "I"}, 90}, {[]string{"a", "b", "c", "d", "e", "f", "g", "h", seventeen}, 90}, {make([]string, 100000), 90},
		// Eight are not too many.
		{[]string{"a", "b", "c", "d", "e", "f", "g", ""}, 2}, {[]string{"a", "b", "c", "d", "e", "f", "g", "H"}, 22}, {[]string{"a", "b", "c", "d", "e", "f", "g", seventeen}, 36}, {[]string{"A", "b", "c", "d", "e", "f", "g", ""}, 22},
	} {
		wantJoin(t, r.l, "", r.no)
	}
}

// Each byte as a name among others.
func TestPA2JoinBytes(t *testing.T) {
	for b := range 256 {
		s := string([]byte{byte(b)})
		if strings.Contains(letters, s) {
			wantJoin(t, []string{s}, "/"+s, 0)
			wantJoin(t, []string{"a", s, "b" + s}, "/a/"+s+"/b"+s, 0)
			continue
		}
		wantJoin(t, []string{s}, "", 22)
		wantJoin(t, []string{"a", s, "b"}, "", 22)
		wantJoin(t, []string{"a", "b" + s}, "", 22)
	}
}

func TestPA2Last(t *testing.T) {
	for _, r := range []struct{ p, name, ahead string }{
		{"b", "b", ""},
		{"b/", "b", ""},
		{"b///", "b", ""},
		{"/b", "b", "/"},
		{"/b/", "b", "/"},
		{"//b", "b", "//"},
		{"///b//", "b", "///"},
		{"a/b", "b", "a/"},
		{"a/b/", "b", "a/"},
		{"a//b", "b", "a//"},
		{"a///b///", "b", "a///"},
		{"/a/b", "b", "/a/"},
		{"/a/b/", "b", "/a/"},
		{"//a///b//", "b", "//a///"},
		{"a/b/c", "c", "a/b/"},
		{"/proc/12/mem", "mem", "/proc/12/"},
		// Names that are alike, and parts of others.
		{"a/a", "a", "a/"},
		{"a/a/", "a", "a/"},
		{"a/a/a", "a", "a/a/"},
		{"/a//a//", "a", "/a//"},
		{"aa", "aa", ""},
		{"aaa", "aaa", ""},
		{"aa/a", "a", "aa/"},
		{"a/aa", "aa", "a/"},
		{"aa/aa", "aa", "aa/"},
		{"ab/b", "b", "ab/"},
		{"ab/a", "a", "ab/"},
		{"b/ab", "ab", "b/"},
		{"bab/ab/bab", "bab", "bab/ab/"},

		{"./b", "b", "./"},
		{"../b", "b", "../"},
		{"/../b", "b", "/../"},
		{"a/./b", "b", "a/./"},
		{"a/../b/", "b", "a/../"},
		{".././../b", "b", ".././../"},
		{"...", "...", ""},
		{"/...", "...", "/"},
		{"...//", "...", ""},
		{"../...", "...", "../"},
		{"....", "....", ""},
		{".a", ".a", ""},
		{"a.", "a.", ""},
		{"..a", "..a", ""},
		{"a..", "a..", ""},
		{"../..a", "..a", "../"},
		{"./a..", "a..", "./"},
		{"/.-", ".-", "/"},
		{"-", "-", ""},
		{"_", "_", ""},

		{sixteen, sixteen, ""},
		{"/" + sixteen, sixteen, "/"},
		{sixteen + "/" + sixteen + "/", sixteen, sixteen + "/"},
		{sixteen + "//a", "a", sixteen + "//"},
		{eight, "h", "a/b/c/d/e/f/g/"},
		{"///" + eight + "///", "h", "///a/b/c/d/e/f/g/"},
		{"a//b//c//d//e//f//g//h//", "h", "a//b//c//d//e//f//g//"},
		{strings.Repeat("/", 100) + "a" + strings.Repeat("/", 100), "a", strings.Repeat("/", 100)},
		{"a" + strings.Repeat("/", 1000) + "b", "b", "a" + strings.Repeat("/", 1000)},
	} {
		wantLast(t, r.p, r.name, r.ahead, 0)
	}
}

func TestPA2NoLast(t *testing.T) {
	for _, p := range []string{
		"/", "//", "/////////", strings.Repeat("/", 1000),
		".", "..", "./", "../", "/.", "/..", "/./", "/../", "//.//", "//..//", "a/.", "a/..", "a/./", "a/../", "/a//.", "/a//..///", "./.", "../..", "./..", ".../..", ".../.", ".../..././.", "a/b/c/d/e/f/g/.", "a/b/c/d/e/f/g/..", sixteen + "/.",
		"A/.", "A/..", "./A", "../A",
	} {
		wantLast(t, p, "", "", 22)
	}
	for _, r := range badPaths {
		wantLast(t, r.p, "", "", r.no)
	}
	// What is wrong with a name is ahead of a last one that is "." or "..".
	for _, last := range []string{".", "..", "./", "..//"} {
		wantLast(t, seventeen+"/"+last, "", "", 36)
		wantLast(t, "/a//"+seventeen+"/"+last, "", "", 36)
		wantLast(t, "../"+seventeen+"/A/"+last, "", "", 36)
		wantLast(t, "A/"+seventeen+"/"+last, "", "", 22)
		wantLast(t, eight+"/"+last, "", "", 90)
		wantLast(t, "A/"+eight+"/"+last, "", "", 90)
		wantLast(t, last+"/"+seventeen, "", "", 36)
		wantLast(t, last+"/A/"+seventeen, "", "", 22)
	}
}

// Each byte in the last name, and in the one ahead of it.
func TestPA2LastBytes(t *testing.T) {
	for b := range 256 {
		s := string([]byte{byte(b)})
		if s == "/" {
			continue // whose paths the other tests have
		}
		if !strings.Contains(letters, s) {
			wantLast(t, "a/"+s, "", "", 22)
			wantLast(t, s+"/a", "", "", 22)
			wantLast(t, "/a"+s+"/b", "", "", 22)
			wantLast(t, "/b/a"+s+"//", "", "", 22)
			continue
		}
		wantLast(t, "/a"+s+"/b", "b", "/a"+s+"/", 0)
		wantLast(t, "/b/a"+s+"//", "a"+s, "/b/", 0)
		wantLast(t, s+"/a", "a", s+"/", 0)
		if s != "." {
			wantLast(t, "a//"+s+"/", s, "a//", 0)
		}
	}
}

// Split of what Join returns are the names; and of such a path, the last name is the last of them.
func TestPA3(t *testing.T) {
	for many := range 9 {
		for _, name := range []string{"a", "z9", "...", "_", "-", ".a", sixteen} {
			for _, other := range []string{"a", ".", "..", "b.c", sixteen} {
				l := slices.Repeat([]string{other}, many)
				for place := range many {
					l[place] = name
					p := wantJoined(t, l)
					wantSplit(t, p, l, true, 0)
				}
				if many > 0 {
					l[many-1] = name
					p := wantJoined(t, l)
					wantLast(t, p, name, strings.TrimSuffix(p, name), 0)
				}
			}
		}
	}
}

// A path stays what it is when its names are joined: split once more, its names are the same.
func TestPA3Again(t *testing.T) {
	for _, p := range []string{"/", "a", "a/", "/a//b/", "..", "./../.", eight, "//" + eight + "//", sixteen + "///" + sixteen} {
		l := wantNames(t, p)
		joined := wantJoined(t, l)
		wantSplit(t, joined, l, true, 0)
		wantJoin(t, wantNames(t, joined), joined, 0)
	}
}

// The part ahead of the last name, and that name, are the path up to the slashes behind it.
func TestPA3Last(t *testing.T) {
	for many := 1; many <= 8; many++ {
		for ahead := range 4 {
			for between := 1; between < 4; between++ {
				for behind := range 4 {
					for _, name := range []string{"a", "a.b", "...", sixteen} {
						what := fmt.Sprintf("%d names %s with %d, %d and %d slashes", many, name, ahead, between, behind)
						p := strings.Repeat("/", ahead) + strings.Join(slices.Repeat([]string{name}, many), strings.Repeat("/", between))
						whole := p + strings.Repeat("/", behind)
						wantLast(t, whole, name, p[:len(p)-len(name)], 0)
						if got := wantNames(t, whole); len(got) != many || got[many-1] != name {
							t.Errorf("%s: the names are %q", what, got)
						}
					}
				}
			}
		}
	}
}
