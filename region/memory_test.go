package region_test

import (
	"slices"
	"testing"

	"halter/api"
	"halter/region"
)

// calls are some that answer a list, and have no error with the regions 10 to 20 with Perm 5, 20 to 30 with 1 and 40 to 50 with 1: some change nothing of them.
var calls = []func(l list) (list, error){
	adding(re(0, 5, 1)), adding(re(5, 10, 5)), adding(re(5, 10, 1)), adding(re(30, 40, 1)), adding(re(30, 40, 7)), adding(re(31, 32, 1)), adding(re(50, 60, 1)), adding(re(50, 60, 2)), adding(re(4095, 4096, 0)),
	cutting(0, 1), cutting(0, 10), cutting(30, 40), cutting(50, 4096), cutting(0, 4096), cutting(10, 20), cutting(20, 30), cutting(40, 50), cutting(15, 45), cutting(12, 13), cutting(0, 20), cutting(20, 4096),
	protecting(10, 20, 5), protecting(12, 13, 5), protecting(40, 50, 1), protecting(10, 20, 1), protecting(10, 30, 5), protecting(12, 13, 7), protecting(49, 50, 7), protecting(10, 11, 0), protecting(20, 30, 2),
}

func three() list { return list{re(10, 20, 5), re(20, 30, 1), re(40, 50, 1)} }

func must(t *testing.T, l list, err error) list {
	t.Helper()
	if err != nil {
		t.Fatal(err)
	}
	return l
}

// full is all of a list's memory, its spare capacity too.
func full(l list) list { return l[:cap(l)] }

func scribble(l list) {
	for n := range l {
		l[n] = re(-9, -99, 99)
	}
}

// No two answers share anything, and an answer stays as it is whatever becomes of the list that was given.
func TestAnswersAreNew(t *testing.T) {
	for n, call := range calls {
		given := append(three(), re(60, 70, 6), re(80, 90, 6))[:3]
		l, err := call(given)
		first := must(t, l, err)
		want := slices.Clone(first)
		l, err = call(given)
		second := must(t, l, err)
		scribble(full(second))
		if !slices.Equal(first, want) {
			t.Errorf("call %d: the answer is %v when another one is written over, want %v", n, first, want)
		}
		scribble(full(given))
		if !slices.Equal(first, want) {
			t.Errorf("call %d: the answer is %v when the list that was given is written over, want %v", n, first, want)
		}
		if l, err = call(three()); !slices.Equal(must(t, l, err), want) {
			t.Errorf("call %d: %v when it is done again, want %v", n, l, want)
		}
	}
}

// An answer has what lies in the list when it is asked, and nothing of what lay there before.
func TestNothingIsKept(t *testing.T) {
	given := three()
	for n, call := range calls {
		copy(given, three())
		l, err := call(given)
		want := slices.Clone(must(t, l, err))
		copy(given, list{re(100, 200, 2), re(200, 300, 3), re(300, 400, 4)})
		wantAt(t, given, 15)
		wantSize(t, given, 300)
		wantHole(t, given, 100, 0, 4096, 0)
		wantHole(t, given, 101, 0, 4096, 400)
		wantCut(t, given, 1, 200, list{re(200, 300, 3), re(300, 400, 4)})
		wantProtect(t, given, 100, 400, 7, list{re(100, 400, 7)})
		wantAdd(t, given, re(0, 100, 2), list{re(0, 200, 2), re(200, 300, 3), re(300, 400, 4)})
		copy(given, list{re(200, 300, 2), re(100, 200, 3), re(300, 400, 4)})
		wantError(t, "Check", region.Check(given), api.ErrArg)
		wantNoCut(t, given, 0, 1, api.ErrArg)
		copy(given, three())
		if l, err = call(given); !slices.Equal(must(t, l, err), want) {
			t.Errorf("call %d: %v when it is done again, want %v", n, l, want)
		}
	}
}

// A nil list is as an empty one, with spare room or without it.
func TestNilIsEmpty(t *testing.T) {
	for _, l := range []list{nil, {}, make(list, 0, 5), three()[:0]} {
		if err := region.Check(l); err != nil {
			t.Errorf("Check: error %v", err)
		}
		for _, c := range []struct{ many, from, to, want int }{{1, 0, 4096, 0}, {4096, 0, 4096, 0}, {3, 7, 10, 7}} {
			if got, err := region.Hole(l, c.many, c.from, c.to); got != c.want || err != nil {
				t.Errorf("Hole(%d, %d, %d): %d, %v", c.many, c.from, c.to, got, err)
			}
		}
		if r, ok := region.At(l, 12); ok || (r != api.Region{}) {
			t.Errorf("At: %v, %v", r, ok)
		}
		if got := region.Size(l); got != 0 {
			t.Errorf("Size: %d", got)
		}
		if got, err := region.Cut(l, 0, 4096); len(got) != 0 || err != nil {
			t.Errorf("Cut: %v, %v", got, err)
		}
		if got, err := region.Add(l, re(12, 13, 4)); !slices.Equal(got, list{re(12, 13, 4)}) || err != nil {
			t.Errorf("Add: %v, %v", got, err)
		}
		_, err := region.Protect(l, 12, 13, 4)
		wantError(t, "Protect", err, api.ErrMemory)
	}
}
