package image_test

import (
	"bytes"
	"slices"
	"sync"
	"testing"
	"unsafe"

	"halter/image"
)

// areShared tells whether any two of some bytes have memory in common, their spare room too.
func areShared(l ...[]byte) bool {
	for n, b := range l {
		for _, c := range l[:n] {
			from, other := uintptr(unsafe.Pointer(unsafe.SliceData(b))), uintptr(unsafe.Pointer(unsafe.SliceData(c)))
			if cap(b) > 0 && cap(c) > 0 && from < other+uintptr(cap(c)) && other < from+uintptr(cap(b)) {
				return true
			}
		}
	}
	return false
}

func datas(i image.Image) [][]byte {
	var l [][]byte
	for _, s := range i.Segs {
		l = append(l, s.Data)
	}
	return l
}

func encoded(t *testing.T, i image.Image) []byte {
	t.Helper()
	b, err := image.Encode(i)
	if err != nil {
		t.Fatalf("Encode(%s): %v", shown(i), err)
	}
	return b
}

func decoded(t *testing.T, b []byte) image.Image {
	t.Helper()
	i, err := image.Decode(b)
	if err != nil {
		t.Fatalf("Decode(%s): %v", shownBytes(b), err)
	}
	return i
}

// No bytes that are answered share anything with what was given, nor with each other.
func TestAllIsNew(t *testing.T) {
	for _, i := range ordinary() {
		one, two := encoded(t, i), encoded(t, i)
		if areShared(append(datas(i), one, two)...) {
			t.Errorf("Encode(%s) shares memory", shown(i))
		}
		d, e := decoded(t, one), decoded(t, one)
		if areShared(slices.Concat(datas(d), datas(e), [][]byte{one})...) {
			t.Errorf("Decode(%s) shares memory", shownBytes(one))
		}
		if unsafe.SliceData(d.Segs) == unsafe.SliceData(e.Segs) {
			t.Errorf("Decode(%s) answers the same Segs twice", shownBytes(one))
		}
	}
}

// What was given is written over: what was answered stays.
func TestArgumentsAreNotKept(t *testing.T) {
	for _, i := range ordinary() {
		want := slowBytes(i)
		given := cloned(i)
		b := encoded(t, given)
		scribbleOver(given)
		if !bytes.Equal(b, want) {
			t.Errorf("Encode(%s): %s when its argument is written over, want %s", shown(i), shownBytes(b), shownBytes(want))
		}
		d := decoded(t, b)
		scribble(b)
		if !same(d, i) {
			t.Errorf("Decode(%s): %s when its argument is written over, want %s", shownBytes(want), shown(d), shown(i))
		}
	}
}

// What was answered is written over, or goes on: what was given stays, and so do other answers and later ones.
func TestAnswersAreTheirOwn(t *testing.T) {
	for _, i := range ordinary() {
		want := slowBytes(i)
		given := cloned(i)
		one, two := encoded(t, given), encoded(t, given)
		scribble(one)
		_ = append(one, 1, 2, 3)
		if !same(given, i) || !bytes.Equal(two, want) || !bytes.Equal(encoded(t, given), want) {
			t.Errorf("Encode(%s) is another one when an answer is written over", shown(i))
		}
		d, e := decoded(t, two), decoded(t, two)
		scribbleOver(d)
		if !bytes.Equal(two, want) || !same(e, i) || !same(decoded(t, two), i) {
			t.Errorf("Decode(%s) is another one when an answer is written over", shownBytes(want))
		}
	}
}

// Each Seg's Data goes on, and is written over, with its spare room: the others stay.
func TestDataAreTheirOwn(t *testing.T) {
	for _, i := range ordinary() {
		b := slowBytes(i)
		for n := range i.Segs {
			d := decoded(t, b)
			_ = append(d.Segs[n].Data, 0x55, 0x66)
			scribble(d.Segs[n].Data)
			for k := range i.Segs {
				if k != n && !bytes.Equal(d.Segs[k].Data, i.Segs[k].Data) {
					t.Errorf("Decode(%s): the Data of Seg %d are %x when those of Seg %d are written over", shownBytes(b), k, d.Segs[k].Data, n)
				}
			}
		}
	}
}

// Segs whose Data are the same memory, or lie in each other: each of them has its bytes.
func TestDataInOnePlace(t *testing.T) {
	data := counted(600)
	i := prog(0, seg(0, 3, 5, data...), seg(3, 6, 3, data...), seg(6, 7, 1, data[100:300]...), seg(7, 8, 1, data[:0]...), seg(8, 9, 1, data[200:201:201]...))
	want(t, i)
	b := encoded(t, i)
	if !bytes.Equal(data, counted(600)) {
		t.Errorf("Encode changes Data")
	}
	scribble(data)
	if d := decoded(t, b); !bytes.Equal(d.Segs[1].Data, counted(600)) || !bytes.Equal(d.Segs[2].Data, counted(600)[100:300]) {
		t.Errorf("Encode(%s): %s", shown(i), shownBytes(b))
	}
}

// Nil lists are as empty ones.
func TestNilIsEmpty(t *testing.T) {
	want := slowBytes(prog(0, seg(0, 1, 4)))
	for _, data := range [][]byte{nil, {}, make([]byte, 0, 9), counted(9)[:0], counted(9)[9:]} {
		i := prog(0, image.Seg{From: 0, To: 1, Perm: 4, Data: data})
		if b := encoded(t, i); !bytes.Equal(b, want) || image.Check(i) != nil {
			t.Errorf("Encode(%s): %s", shown(i), shownBytes(b))
		}
	}
	for _, segs := range [][]image.Seg{nil, {}, make([]image.Seg, 0, 9)} {
		if _, err := image.Encode(image.Image{Segs: segs}); number(err) != 8 || number(image.Check(image.Image{Segs: segs})) != 8 {
			t.Errorf("no Segs: %v", err)
		}
	}
	for _, b := range [][]byte{nil, {}, make([]byte, 0, 30), want[:0]} {
		if i, err := image.Decode(b); number(err) != 8 || !same(i, image.Image{}) {
			t.Errorf("no bytes: %s, %v", shown(i), err)
		}
	}
}

// Bytes behind those that are given, which are their spare room, are none of them.
func TestSpareRoomIsNotRead(t *testing.T) {
	for _, i := range ordinary() {
		b := slowBytes(i)
		whole := append(bytes.Clone(b), b...)
		if d := decoded(t, whole[:len(b)]); !same(d, i) {
			t.Errorf("Decode(%s): %s", shownBytes(b), shown(d))
		}
		for n := range len(b) {
			if d, err := image.Decode(b[:n]); number(err) != 8 || !same(d, image.Image{}) {
				t.Fatalf("Decode of the first %d of %s: %s, %v", n, shownBytes(b), shown(d), err)
			}
		}
	}
}

// The same calls have the same answers, whatever was called in between.
func TestAgain(t *testing.T) {
	l := append(ordinary(), wrong()...)
	for range 3 {
		for _, i := range l {
			want(t, i)
		}
		slices.Reverse(l)
	}
}

// What is answered stays, whatever is called afterwards.
func TestAnswersStay(t *testing.T) {
	l := ordinary()
	var all [][]byte
	var back []image.Image
	for _, i := range l {
		b := encoded(t, i)
		all = append(all, b)
		back = append(back, decoded(t, b))
	}
	for _, i := range append(ordinary(), wrong()...) {
		want(t, i)
	}
	for n, i := range l {
		if !bytes.Equal(all[n], slowBytes(i)) || !same(back[n], i) {
			t.Errorf("%s: %s and %s in the end", shown(i), shownBytes(all[n]), shown(back[n]))
		}
	}
}

// Calls that are made at the same time, of the same programs and bytes, know nothing of each other.
func TestAtTheSameTime(t *testing.T) {
	l := ordinary()
	var all [][]byte
	for _, i := range l {
		all = append(all, slowBytes(i))
	}
	var calls sync.WaitGroup
	for from := range 4 {
		calls.Go(func() {
			for n := range 40 * len(l) {
				n = (n + from) % len(l)
				b, err := image.Encode(l[n])
				d, other := image.Decode(all[n])
				if err != nil || other != nil || !bytes.Equal(b, all[n]) || !same(d, l[n]) {
					t.Errorf("%s: %s, %v, %s, %v", shown(l[n]), shownBytes(b), err, shown(d), other)
					return
				}
			}
		})
	}
	calls.Wait()
}
