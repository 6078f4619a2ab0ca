package path_test

import "testing"

// checked is what Check answers, by the chapter: the number of an error; 0: none.
func checked(name string) int {
	foreign := 0
	for i := range len(name) {
		known := 0
		for k := range len(letters) {
			if letters[k] == name[i] {
				known++
			}
		}
		if known == 0 {
			foreign++
		}
	}
	switch {
	case len(name) == 0:
		return 2
	case len(name) > 16:
		return 36
	case foreign > 0:
		return 22
	}
	return 0
}

// joined is what Join answers, by the chapter.
func joined(l []string) (string, int) {
	if len(l) > 8 {
		return "", 90
	}
	p := ""
	for _, name := range l {
		if no := checked(name); no != 0 {
			return "", no
		}
		p += "/" + name
	}
	if p == "" {
		p = "/"
	}
	return p, 0
}

// parted is what Split answers, by the chapter; it goes from byte to byte.
func parted(p string) ([]string, bool, int) {
	if len(p) == 0 {
		return nil, false, 2
	}
	var l []string
	name := ""
	for i := range len(p) + 1 {
		if i < len(p) && p[i] != '/' {
			name += p[i : i+1]
			continue
		}
		if name != "" {
			l = append(l, name)
		}
		name = ""
	}
	if _, no := joined(l); no != 0 {
		return nil, false, no
	}
	return l, p[0] == '/', 0
}

// lastOf is what Last answers, by the chapter; it goes from the end.
func lastOf(p string) (string, string, int) {
	if _, _, no := parted(p); no != 0 {
		return "", "", no
	}
	to := len(p)
	for to > 0 && p[to-1] == '/' {
		to--
	}
	from := to
	for from > 0 && p[from-1] != '/' {
		from--
	}
	switch p[from:to] {
	case "", ".", "..":
		return "", "", 22
	}
	return p[from:to], p[:from], 0
}

// wantPath holds Split and Last of a path against the chapter, and Join of its names.
func wantPath(t *testing.T, p string) {
	t.Helper()
	l, root, no := parted(p)
	wantSplit(t, p, l, root, no)
	name, ahead, noLast := lastOf(p)
	wantLast(t, p, name, ahead, noLast)
	if no == 0 {
		whole, _ := joined(l)
		wantJoin(t, l, whole, 0)
		wantSplit(t, whole, l, true, 0)
	}
}

// each calls with every text of up to so many pieces.
func each(pieces []string, most int, call func(string)) {
	call("")
	if most == 0 {
		return
	}
	for _, piece := range pieces {
		each(pieces, most-1, func(rest string) { call(piece + rest) })
	}
}

// eachList calls with every list of so many names.
func eachList(names []string, many int, call func([]string)) {
	l := make([]string, many)
	var fill func(place int)
	fill = func(place int) {
		if place == many {
			call(l)
			return
		}
		for _, name := range names {
			l[place] = name
			fill(place + 1)
		}
	}
	fill(0)
}

// Every text of up to seven of some bytes.
func TestShortPaths(t *testing.T) {
	each([]string{"/", "a", ".", "A", "\xff"}, 7, func(p string) {
		wantCheck(t, p, checked(p))
		wantPath(t, p)
	})
}

// Longer texts of fewer bytes: 17 of them are enough for nine names.
func TestPathsOfSlashes(t *testing.T) {
	each([]string{"/", "a"}, 17, func(p string) { wantPath(t, p) })
	each([]string{"/", "a", "."}, 10, func(p string) { wantPath(t, p) })
}

// Every text of up to five of some pieces.
func TestPathsOfPieces(t *testing.T) {
	each([]string{"/", "///", "a", "..", "z-9", sixteen, sixteen[:15], "\x00", "é", eight}, 5, func(p string) {
		wantCheck(t, p, checked(p))
		wantPath(t, p)
	})
}

// Every list of names of some kinds, good ones and bad ones; the longer ones, of fewer kinds, also as paths.
func TestLists(t *testing.T) {
	for many := range 7 {
		eachList([]string{"a", "..", "", "A", "a/b", seventeen, "ABCDEFGHIJKLMNOPQ"}, many, func(l []string) {
			p, no := joined(l)
			wantJoin(t, l, p, no)
		})
	}
	for _, many := range []int{7, 8, 9, 10} {
		eachList([]string{"a", "A", seventeen}, many, func(l []string) {
			p, no := joined(l)
			wantJoin(t, l, p, no)
			whole := ""
			for _, name := range l {
				whole += "/" + name
			}
			wantPath(t, whole[1:])
		})
	}
}

// dice are numbers that look thrown, the same ones in each run.
type dice uint64

func (d *dice) throw(n int) int {
	*d = *d*6364136223846793005 + 1442695040888963407
	return int(uint64(*d) >> 33 % uint64(n))
}

// name is one of any size about the limits, in which a byte is seldom a bad one.
func (d *dice) name() string {
	b := make([]byte, 1+d.throw(6))
	if d.throw(5) == 0 {
		b = make([]byte, 13+d.throw(5))
	}
	for i := range b {
		b[i] = letters[d.throw(len(letters))]
		if d.throw(200) == 0 {
			b[i] = byte(d.throw(256))
		}
	}
	return string(b)
}

func (d *dice) slashes(least, most int) string {
	s := ""
	for range least + d.throw(most-least+1) {
		s += "/"
	}
	return s
}

// Long paths of any names.
func TestThrownPaths(t *testing.T) {
	d := dice(16)
	for range 100000 {
		p, l := d.slashes(0, 2), []string(nil)
		for range d.throw(11) {
			name := d.name()
			l = append(l, name)
			p += name + d.slashes(1, 3)
			wantCheck(t, name, checked(name))
		}
		if d.throw(2) == 0 {
			for p != "" && p[len(p)-1] == '/' {
				p = p[:len(p)-1]
			}
		}
		wantPath(t, p)
		whole, no := joined(l)
		wantJoin(t, l, whole, no)
	}
}
