package file_test

import (
	"fmt"
	"math"
	"testing"

	"halter/file"
)

// ofNumber are the calls that ask for a file, with nothing else that is wrong.
func ofNumber(n int) []call {
	return []call{get(n), ref(n), unref(n), move(n, 0), move(n, 1), move(n, mostNumber)}
}

func TestNoSuchFile(t *testing.T) {
	for _, most := range []int{1, 2, 3, 31, 32} {
		for _, k := range []*table{made(t, most), filled(t, most)} {
			for _, n := range strangers(most) {
				if 0 <= n && n < most {
					continue
				}
				for _, c := range ofNumber(n) {
					if got := k.call(c); !got.is(bad(9)) {
						t.Errorf("%v of %d: %v, want error 9", c, most, got)
					}
				}
			}
			k.alike("strangers").release("strangers")
		}
	}
}

// Numbers that files have had, and those that none had yet.
func TestFileThatIsGone(t *testing.T) {
	k := filled(t, 4)
	k.rows(row{ref(1), done}, row{unref(1), left(taken(sample(1), 1))}, row{unref(1), last(sample(1))}, row{unref(3), last(sample(3))})
	for range 3 {
		k.all(9, ofNumber(1)...)
		k.all(9, ofNumber(3)...)
	}
	k.rows(row{open(sample(5)), num(1)})
	k.all(9, ofNumber(3)...)
	k.release("all")
	few := made(t, 4).rows(row{open(sample(0)), num(0)})
	for n := 1; n < 4; n++ {
		few.all(9, ofNumber(n)...)
	}
	few.release("all")
}

// A file that is not valid, in each way: in an empty table, in one with room, and in a full one, where ErrFiles would do too.
func TestOpenNotValid(t *testing.T) {
	some := made(t, 3).rows(row{open(sample(1)), num(0)})
	for _, k := range []*table{made(t, 1), some, filled(t, 1), filled(t, 2), filled(t, 32)} {
		for _, f := range notValid() {
			if got := k.call(open(f)); !got.is(bad(22)) {
				t.Fatalf("Open(%s): %v, want error 22", told(f), got)
			}
		}
		k.alike("files that are not valid").release("files that are not valid")
	}
}

// Files that are not valid for several reasons.
func TestOpenNotValidTwice(t *testing.T) {
	k := made(t, 2).rows(row{open(sample(3)), num(0)})
	for _, kind := range []int{-1, 0, 3, 4} {
		for _, id := range []int{-1, 0, mostNumber, mostNumber + 1} {
			for _, off := range []int{-1, 0, mostNumber, mostNumber + 1} {
				for _, many := range []int{0, 255, 256, 257} {
					if got := k.call(open(file.File{Kind: kind, ID: id, Off: off, Name: lots(many)})); got.no == 0 {
						k.rows(row{unref(1), last(file.File{Kind: kind, ID: id, Off: off, Name: lots(many)})})
					}
				}
			}
		}
	}
	k.alike("all").release("all")
}

// Where two errors of Move would do: the rule names ErrBadFile first.
func TestMoveOrder(t *testing.T) {
	k := filled(t, 3)
	k.rows(row{unref(1), last(sample(1))})
	for _, off := range badNumbers {
		for _, n := range append(strangers(3), 1) {
			k.all(9, move(n, off))
		}
		k.all(22, move(0, off), move(2, off))
	}
	k.release("all")
}

// Every method of a nil Table.
func TestNil(t *testing.T) {
	var x *file.Table
	var l []call
	for _, n := range append(strangers(2), 0, 1) {
		l = append(append(l, ofNumber(n)...), move(n, -1), move(n, math.MaxInt))
	}
	for _, f := range append(notValid(), file.File{}, sample(0), sample(1), sample(2), sample(3)) {
		l = append(l, open(f))
	}
	for _, c := range l {
		if got := c.do(t, x); !got.is(bad(22)) {
			t.Errorf("%v of a nil Table: %v, want error 22", c, got)
		}
	}
	if got := list().do(t, x); !got.is(listed()) {
		t.Errorf("List of a nil Table: %v, want nothing", got)
	}
}

// Beside an error there is nothing: no part of a file that there was, nor of one that was given.
func TestNothingBesideAnError(t *testing.T) {
	k := filled(t, 2)
	k.call(unref(1))
	for _, c := range append(append(ofNumber(1), ofNumber(-1)...), move(0, -1), open(file.File{Kind: 1, ID: -1, Off: 5, Read: true, Name: "name", Refs: 3})) {
		a, err := c.ask(k.x)
		if err == nil || a.no <= 0 || a.n != 0 || a.f != (file.File{}) || a.gone || len(a.l) > 0 {
			t.Errorf("%v: %v, %v, want an error alone", c, a, err)
		}
	}
	if x, err := file.New(33); x != nil || number(err) != 22 {
		t.Errorf("New(33): %v, %v", x, err)
	}
}

// Calls that fail, as often as one likes, then those that work: the table is as if there had been none of the first.
func TestFailuresChangeNothing(t *testing.T) {
	k := filled(t, 4)
	k.rows(row{unref(2), last(sample(2))}, row{ref(1), done}, row{open(sample(8)), num(2)}, row{unref(3), last(sample(3))})
	for range 3 {
		for _, c := range []call{
			open(file.File{Kind: 4}), open(file.File{Kind: -1}), open(file.File{ID: -1}), open(file.File{Off: mostNumber + 1}), open(file.File{Name: lots(257)}),
			get(3), get(4), get(-1), ref(3), ref(4), unref(3), unref(4), unref(-1), move(3, 0), move(4, 0), move(0, -1), move(1, mostNumber+1), move(2, math.MinInt),
		} {
			if got := k.call(c); got.no == 0 {
				t.Fatalf("%v: %v, want an error", c, got)
			}
			k.alike(c.String())
		}
	}
	k.rows(row{open(sample(9)), num(3)})
	for range 3 {
		k.all(23, open(sample(10)), open(file.File{}))
	}
	k.rows(
		row{get(0), has(taken(sample(0), 1))}, row{get(1), has(taken(sample(1), 2))}, row{get(2), has(taken(sample(8), 1))}, row{get(3), has(taken(sample(9), 1))},
		row{unref(1), left(taken(sample(1), 1))}, row{unref(1), last(sample(1))}, row{open(sample(11)), num(1)},
	).release("failures")
}

// Each error is found in tables of each size.
func TestEverySize(t *testing.T) {
	for most := 1; most <= 32; most++ {
		k := filled(t, most)
		behind := fmt.Sprintf("errors of a table with room for %d", most)
		k.all(23, open(sample(50)))
		k.all(22, open(file.File{Kind: 9}), move(most-1, -1))
		k.all(9, get(most), get(-1), ref(most), unref(most), move(most, -1))
		k.alike(behind).release(behind)
	}
}
