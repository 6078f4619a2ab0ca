package image_test

import (
	"bytes"
	"slices"
	"testing"

	"halter/image"
)

// wantBackAndForth holds what follows of the first promise, without the slow functions.
func wantBackAndForth(t *testing.T, i image.Image) {
	t.Helper()
	b, no := encode(t, i)
	if no != 0 {
		t.Fatalf("Encode(%s): error %d", shown(i), no)
	}
	d, no := decode(t, b)
	if no != 0 || !same(d, i) {
		t.Fatalf("Decode(%s): %s, error %d, want %s", shownBytes(b), shown(d), no, shown(i))
	}
	if again, no := encode(t, d); no != 0 || !bytes.Equal(again, b) {
		t.Fatalf("Encode(%s): %s, error %d, want %s", shown(d), shownBytes(again), no, shownBytes(b))
	}
}

func TestIM2BackAndForth(t *testing.T) {
	for _, i := range ordinary() {
		wantBackAndForth(t, i)
	}
}

// Bytes that are cut off, or followed by further ones, are those of no program, wherever and whatever these are.
func TestIM2CutOffAndFollowed(t *testing.T) {
	for _, i := range ordinary() {
		b, _ := encode(t, i)
		for n := range len(b) {
			wantNoBytes(t, b[:n])
			wantNoBytes(t, append(bytes.Clone(b), b[:n+1]...))
			wantNoBytes(t, append(bytes.Clone(b), b[n:]...))
		}
	}
}

// Different programs have different bytes.
func TestIM2NoTwoAlike(t *testing.T) {
	seen := map[string]image.Image{}
	r := random(99)
	for range 3000 {
		i := r.program()
		b, _ := encode(t, i)
		if j, taken := seen[string(b)]; taken && !same(i, j) {
			t.Fatalf("%s and %s: %s", shown(i), shown(j), shownBytes(b))
		}
		seen[string(b)] = i
	}
	if len(seen) < 2500 {
		t.Errorf("only %d programs", len(seen))
	}
}

// random gives numbers that look like chance, and are the same each time.
type random uint64

// below is a number from 0 on that is less than another one.
func (r *random) below(limit int) int {
	*r = *r*6364136223846793005 + 1442695040888963407
	return int(uint64(*r)>>33) % limit
}

// one is one of some numbers.
func (r *random) one(l ...int) int { return l[r.below(len(l))] }

// program is a valid one.
func (r *random) program() image.Image {
	many := 1 + r.below(8)
	limit := r.one(2*many, 3*many, 40, 300, 4080)
	var cuts []int
	for len(cuts) < 2*many {
		if page := r.below(limit + 1); !slices.Contains(cuts, page) {
			cuts = append(cuts, page)
		}
	}
	slices.Sort(cuts)
	if limit < 4080 && r.below(3) == 0 {
		// So that the last Seg ends where there are no more pages.
		for n := range cuts {
			cuts[n] += 4080 - cuts[2*many-1]
		}
	}
	var i image.Image
	for n := range many {
		from, to := cuts[2*n], cuts[2*n+1]
		if n > 0 && r.below(2) == 0 {
			from = i.Segs[n-1].To
		}
		most := min((to-from)*256, r.one(1, 10, 300, 700, 3000))
		i.Segs = append(i.Segs, filled(from, to, uint8(r.below(8)), r.below(most+1)))
	}
	begin := &i.Segs[r.below(many)]
	begin.Perm |= 4
	i.Entry = uint32(begin.From+r.below(begin.To-begin.From))*256 + uint32(4*r.below(64))
	return i
}

// Programs by chance, each of them valid.
func TestPrograms(t *testing.T) {
	r := random(1)
	counts := [9]int{}
	for range 6000 {
		i := r.program()
		counts[len(i.Segs)]++
		wantAs(t, i, true)
		wantBackAndForth(t, i)
	}
	for many := 1; many <= 8; many++ {
		if counts[many] < 500 {
			t.Errorf("only %d programs with %d Segs", counts[many], many)
		}
	}
}

// spoil changes a program in one place.
func (r *random) spoil(i *image.Image) {
	n := r.below(len(i.Segs))
	s := &i.Segs[n]
	switch r.below(10) {
	case 0:
		s.From += r.one(-1, 1, -2, 65536, 256, -256)
	case 1:
		s.To += r.one(-1, 1, -2, 65536, 256, -256)
	case 2:
		s.From, s.To = s.To, s.From
	case 3:
		s.Perm ^= uint8(r.one(1, 2, 4, 8, 16, 128))
	case 4:
		s.Data = counted(max(0, (s.To-s.From)*256+r.one(-1, 0, 1)))
	case 5:
		i.Entry += uint32(r.one(-256, -4, -1, 1, 2, 4, 256, 1<<20, 1<<24))
	case 6:
		i.Segs = slices.Delete(i.Segs, n, n+1)
	case 7:
		i.Segs = slices.Insert(i.Segs, n, *s)
	case 8:
		k := r.below(len(i.Segs))
		i.Segs[n], i.Segs[k] = i.Segs[k], i.Segs[n]
	case 9:
		i.Segs = append(i.Segs, seg(s.To, s.To+1, s.Perm))
	}
}

// Programs by chance that are changed in a place or several: the slow one tells which of them are valid.
func TestSpoiltPrograms(t *testing.T) {
	r := random(2)
	good := 0
	for range 12000 {
		i := r.program()
		for range r.one(1, 1, 2, 3) {
			if len(i.Segs) > 0 {
				r.spoil(&i)
			}
		}
		if want(t, i) {
			good++
		}
	}
	if good < 2000 || good > 10000 {
		t.Errorf("%d of 12000 programs are valid", good)
	}
}

// Bytes of programs by chance, with bytes changed, left out and put in.
func TestSpoiltBytes(t *testing.T) {
	r := random(3)
	good := 0
	for range 12000 {
		b := slowBytes(r.program())
		for range r.one(1, 1, 2, 3) {
			place := r.below(min(len(b), 9+r.one(7, 20, 1<<16)))
			switch r.below(4) {
			case 0, 1:
				b[place] = byte(r.one(0, 1, 2, 4, 8, 15, 16, 239, 240, 255, int(b[place])^1, int(b[place])+4))
			case 2:
				b = slices.Insert(b, place, byte(r.below(256)))
			case 3:
				b = slices.Delete(b, place, place+1)
			}
		}
		if wantSlow(t, b) {
			good++
		}
	}
	if good < 1000 || good > 11000 {
		t.Errorf("%d of 12000 are programs", good)
	}
}

// Every two Segs of a few pages, at the beginning and at the end of all pages.
func TestEveryTwoSegs(t *testing.T) {
	for _, base := range []int{0, 255, 4076} {
		for n := range 6 * 6 * 6 * 6 {
			a, b, c, d := base+n%6-1, base+n/6%6-1, base+n/36%6-1, base+n/216-1
			for page := base - 1; page < base+5; page++ {
				want(t, prog(uint32(page)*256, seg(a, b, 4), seg(c, d, 5)))
			}
		}
	}
}

// Every three Segs of a few pages.
func TestEveryThreeSegs(t *testing.T) {
	for _, base := range []int{0, 4077} {
		for n := range 1 << 12 {
			at := func(k int) int { return base + n>>(2*k)&3 }
			want(t, prog(uint32(at(2))*256, seg(at(0), at(1), 4), seg(at(2), at(3), 4), seg(at(4), at(5), 4)))
		}
	}
}
