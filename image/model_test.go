package image_test

import (
	"bytes"

	"halter/image"
)

// slowValid tells whether a program is valid: it visits all pages of all Segs, each of which must be greater than the one ahead of it.
func slowValid(i image.Image) bool {
	if n := len(i.Segs); n == 0 || n >= 9 {
		return false
	}
	last, begins := -1, false
	for _, s := range i.Segs {
		pages := 0
		for page := s.From; page < s.To; page++ {
			if page <= last || page >= 4080 {
				return false
			}
			last = page
			pages++
			begins = begins || slowExec(s.Perm) && slowIn(i.Entry, page)
		}
		if pages == 0 || s.Perm >= 8 || !slowFits(s.Data, pages) {
			return false
		}
	}
	return begins
}

// slowExec tells whether a Perm contains Exec; slowValid holds greater ones apart.
func slowExec(perm uint8) bool { return perm == 4 || perm == 5 || perm == 6 || perm == 7 }

// slowIn tells whether there is an instruction of a page at an address.
func slowIn(at uint32, page int) bool {
	from := uint64(page) * 256
	if uint64(at) < from || uint64(at) > from+255 {
		return false
	}
	for word := range uint64(64) {
		if uint64(at) == from+word*4 {
			return true
		}
	}
	return false
}

// slowFits takes the pages away one by one.
func slowFits(data []byte, pages int) bool {
	left := len(data)
	for range pages {
		left -= 256
	}
	return left <= 0 && len(data) < 65536
}

// slowNumber are bytes of a number, by division: what does not fit into so many of them is lost.
func slowNumber(v, many int) []byte {
	var b []byte
	for range many {
		rest := ((v % 256) + 256) % 256
		b = append(b, byte(rest))
		v = (v - rest) / 256
	}
	return b
}

// slowBytes are the bytes of a program, valid or not.
func slowBytes(i image.Image) []byte {
	l := [][]byte{{'h', 'x', '0', '1'}, slowNumber(int(i.Entry), 4), slowNumber(len(i.Segs), 1)}
	for _, s := range i.Segs {
		l = append(l, slowNumber(s.From, 2), slowNumber(s.To, 2), []byte{s.Perm}, slowNumber(len(s.Data), 2), s.Data)
	}
	return bytes.Join(l, nil)
}

// slowDecode is the program of bytes: it takes the least one that could be meant, and looks whether its bytes are these.
func slowDecode(b []byte) (image.Image, bool) {
	if len(b) < 9 {
		return image.Image{}, false
	}
	at := func(n int) int { return int(b[n]) }
	i := image.Image{Entry: uint32(at(4) + 256*at(5) + 65536*at(6) + 16777216*at(7))}
	next := 9
	for range at(8) {
		if next+7 > len(b) {
			return image.Image{}, false
		}
		s := image.Seg{From: at(next) + 256*at(next+1), To: at(next+2) + 256*at(next+3), Perm: b[next+4]}
		data := next + 7
		next = data + at(next+5) + 256*at(next+6)
		if next > len(b) {
			return image.Image{}, false
		}
		s.Data = b[data:next]
		i.Segs = append(i.Segs, s)
	}
	if !bytes.Equal(slowBytes(i), b) || !slowValid(i) {
		return image.Image{}, false
	}
	return i, true
}
