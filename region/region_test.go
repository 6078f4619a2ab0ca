package region_test

import (
	"errors"
	"fmt"
	"math"
	"slices"
	"testing"

	"halter/api"
	"halter/region"
)

type list = []api.Region

// re is a region, written short.
func re(from, to int, perm uint8) api.Region { return api.Region{From: from, To: to, Perm: perm} }

// singles are as many regions as there can be: one a page, no two neighbours alike.
func singles() list {
	var l list
	for page := range api.Pages {
		l = append(l, re(page, page+1, uint8(page%8)))
	}
	return l
}

// apart are as many regions as there can be that do not touch.
func apart() list {
	var l list
	for page := 0; page < api.Pages; page += 2 {
		l = append(l, re(page, page+1, 5))
	}
	return l
}

// valid are lists of regions that can be.
func valid() []list {
	return []list{
		nil,
		{},
		{re(0, 1, 0)}, {re(0, 4096, 7)}, {re(4095, 4096, 1)}, {re(2, 6, 3)},
		{re(0, 1, 0), re(4095, 4096, 0)},
		{re(1, 2, 3), re(3, 4, 3)},
		{re(1, 2, 3), re(2, 4, 4)},
		{re(1, 2, 3), re(2, 4, 7)},
		{re(0, 7, 7), re(7, 8, 0), re(8, 4096, 7)},
		{re(0, 2048, 1), re(2048, 4096, 2)},
		{re(10, 20, 5), re(20, 30, 1), re(40, 50, 1), re(50, 51, 5), re(60, 70, 5)},
		singles(), apart(),
	}
}

// broken are lists of regions that can't be, most of them by one fault alone.
func broken() []list {
	bad := []list{
		// A region that is none.
		{{}}, {re(5, 5, 1)}, {re(6, 5, 1)}, {re(0, 0, 7)}, {re(4096, 4096, 1)}, {re(4096, 4095, 1)}, {re(1, 0, 1)},
		{re(-1, 5, 1)}, {re(-2, -1, 1)}, {re(-1, 0, 1)}, {re(5, 4097, 1)}, {re(0, 4097, 1)}, {re(4096, 4097, 1)}, {re(5000, 6000, 1)}, {re(-1, 4097, 1)},
		{re(5, 6, 8)}, {re(0, 4096, 8)}, {re(5, 6, 9)}, {re(5, 6, 16)}, {re(5, 6, 128)}, {re(5, 6, 255)},
		{re(math.MinInt, 5, 1)}, {re(5, math.MaxInt, 1)}, {re(math.MinInt, math.MaxInt, 1)}, {re(math.MaxInt, math.MinInt, 1)}, {re(1<<32, 1<<32+1, 1)}, {re(-1<<32+1, 5, 1)},
		{re(5, 6, 1), re(8, 8, 2)}, {re(5, 6, 1), re(6, 6, 2)}, {re(5, 6, 1), re(9, 8, 2)}, {re(5, 5, 1), re(8, 9, 2)}, {re(5, 6, 1), re(4095, 4097, 2)}, {re(-1, 6, 1), re(8, 9, 2)},
		{re(5, 6, 8), re(8, 9, 2)}, {re(5, 6, 1), re(8, 9, 8)}, {re(5, 6, 1), re(8, 9, 9)}, {re(5, 6, 1), {}, re(8, 9, 1)}, {re(5, 6, 1), re(8, 9, 8), re(12, 13, 1)},
		// Regions that descend.
		{re(8, 9, 1), re(5, 6, 1)}, {re(8, 9, 1), re(5, 6, 2)}, {re(8, 9, 1), re(7, 8, 1)}, {re(8, 9, 1), re(7, 8, 2)}, {re(4095, 4096, 1), re(0, 1, 1)},
		{re(5, 6, 1), re(12, 13, 1), re(8, 9, 1)}, {re(8, 9, 1), re(5, 6, 1), re(12, 13, 1)}, {re(5, 6, 1), re(8, 9, 1), re(0, 1, 1)},
		// Regions that overlap.
		{re(5, 9, 1), re(8, 12, 1)}, {re(5, 9, 1), re(8, 12, 2)}, {re(5, 9, 1), re(5, 9, 1)}, {re(5, 9, 1), re(5, 9, 2)}, {re(5, 9, 1), re(6, 7, 2)}, {re(6, 7, 2), re(5, 9, 1)},
		{re(5, 9, 1), re(5, 6, 2)}, {re(5, 9, 1), re(8, 9, 2)}, {re(5, 9, 1), re(3, 6, 2)}, {re(0, 4096, 7), re(4095, 4096, 1)}, {re(5, 9, 1), re(4, 12, 1)},
		{re(1, 2, 1), re(5, 9, 1), re(8, 12, 2)}, {re(5, 9, 1), re(8, 12, 2), re(20, 21, 2)}, {re(5, 9, 1), re(10, 11, 1), re(8, 12, 2)},
		// Regions that touch, and are alike.
		{re(5, 9, 1), re(9, 12, 1)}, {re(5, 9, 0), re(9, 12, 0)}, {re(0, 2048, 7), re(2048, 4096, 7)}, {re(5, 9, 1), re(9, 12, 2), re(12, 13, 2)}, {re(5, 9, 1), re(9, 12, 1), re(12, 13, 2)},
		{re(5, 9, 1), re(12, 13, 1), re(13, 14, 1), re(16, 17, 1)}, {re(0, 1, 5), re(1, 2, 5)}, {re(4094, 4095, 5), re(4095, 4096, 5)},
	}
	for _, page := range []int{0, 1, 7, 4094} {
		// The greatest list that there can be, but for one fault.
		alike := singles()
		alike[page+1].Perm = alike[page].Perm
		wrong := singles()
		wrong[page].Perm = 8
		swapped := singles()
		swapped[page], swapped[page+1] = swapped[page+1], swapped[page]
		longer := singles()
		longer[page].To++
		bad = append(bad, alike, wrong, swapped, longer)
	}
	return append(bad, append(singles(), re(0, 1, 1)), append(singles(), re(4096, 4097, 1)), append(apart(), re(4093, 4094, 1)))
}

// badPerms are no uses.
var badPerms = []uint8{8, 9, 10, 15, 16, 24, 64, 128, 248, 254, 255}

// badRanges are where there can't be pages from one on, up to another one.
var badRanges = [][2]int{
	{0, 0}, {1, 1}, {5, 5}, {4095, 4095}, {4096, 4096}, {-1, -1}, {4097, 4097}, {1, 0}, {6, 5}, {4095, 0}, {4096, 0}, {4096, 4095}, {4097, 4096},
	{-1, 0}, {-1, 1}, {-1, 5}, {-1, 4096}, {-2, -1}, {-4096, 5}, {-5, -1}, {0, -1}, {5, -1}, {5, -5}, {0, 4097}, {5, 4097}, {4095, 4097}, {4096, 4097}, {5000, 6000}, {-1, 4097}, {5, 8192},
	{math.MinInt, 5}, {5, math.MinInt}, {5, math.MaxInt}, {math.MaxInt, 5}, {math.MinInt, math.MaxInt}, {math.MaxInt, math.MinInt}, {math.MinInt, math.MinInt}, {math.MaxInt, math.MaxInt},
	{math.MinInt, 0}, {0, math.MaxInt}, {0, math.MinInt}, {math.MaxInt - 1, math.MaxInt}, {-1 << 32, 5}, {-1<<32 + 1, 5}, {5, 1 << 32}, {5, 1<<32 + 6}, {1<<32 + 5, 1<<32 + 6}, {-1<<32 + 5, 6}, {1 << 31, 1<<31 + 1}, {math.MinInt32, 5}, {5, math.MaxInt32},
}

// badMany are numbers of pages for which no hole can be asked.
var badMany = []int{0, -1, -2, -4095, -4096, -4097, 4097, 4098, 8192, 1 << 16, math.MinInt32, math.MaxInt32, 1 << 31, 1 << 32, 1<<32 + 1, -1<<32 + 1, math.MinInt, math.MinInt + 1, math.MaxInt - 1, math.MaxInt}

// badPages are numbers of no page.
var badPages = []int{-1, -2, -4095, -4096, -4097, 4096, 4097, 4098, 8191, 8192, 1 << 16, 1 << 31, 1 << 32, 1<<32 + 1, 1<<32 + 15, -1 << 32, -1<<32 + 15, math.MinInt32, math.MaxInt32, math.MinInt, math.MinInt + 1, math.MinInt + 15, math.MaxInt - 1, math.MaxInt}

func wantError(t *testing.T, what string, err error, want api.Errno) {
	t.Helper()
	var no api.Errno
	if !errors.As(err, &no) || no != want {
		t.Fatalf("%s: error %v, want %v", what, err, want)
	}
}

// told is a call as a text; of a long list its length is enough.
func told(name string, l list, args ...any) string {
	if len(l) > 20 {
		return fmt.Sprint(name, " of ", len(l), " regions ", args)
	}
	return fmt.Sprint(name, l, args)
}

// guard hands a list with spare room to a call, and holds that nothing of it is changed: not by the call, and not where all of its answer is written over.
func guard(t *testing.T, what string, l list, call func(l list) list) list {
	t.Helper()
	junk := re(-7, -77, 77)
	given := append(slices.Clone(l), junk, junk, junk)
	before := slices.Clone(given)
	answer := call(given[:len(l)])
	got := slices.Clone(answer)
	answer = answer[:cap(answer)]
	for n := range answer {
		answer[n] = re(-9, -99, 99)
	}
	if !slices.Equal(given, before) {
		t.Fatalf("%s: the list that was given is %v now", what, given)
	}
	return got
}

func check(t *testing.T, l list) error {
	t.Helper()
	var err error
	guard(t, told("Check", l), l, func(l list) list {
		err = region.Check(l)
		return nil
	})
	return err
}

// wantList holds the answer of one of the calls that answer a list.
func wantList(t *testing.T, what string, l, want list, call func(l list) (list, error)) {
	t.Helper()
	got := guard(t, what, l, func(l list) list {
		got, err := call(l)
		if err != nil {
			t.Fatalf("%s: error %v", what, err)
		}
		return got
	})
	if !slices.Equal(got, want) {
		t.Fatalf("%s: %v, want %v", what, got, want)
	}
	if err := check(t, got); err != nil {
		t.Fatalf("%s: the answer is not valid", what)
	}
}

// wantNoList holds that such a call has an error, and nothing beside it.
func wantNoList(t *testing.T, what string, l list, want api.Errno, call func(l list) (list, error)) {
	t.Helper()
	guard(t, what, l, func(l list) list {
		got, err := call(l)
		wantError(t, what, err, want)
		if len(got) != 0 {
			t.Fatalf("%s: %v beside an error", what, got)
		}
		return got
	})
}

func adding(r api.Region) func(l list) (list, error) {
	return func(l list) (list, error) { return region.Add(l, r) }
}

func cutting(from, to int) func(l list) (list, error) {
	return func(l list) (list, error) { return region.Cut(l, from, to) }
}

func protecting(from, to int, perm uint8) func(l list) (list, error) {
	return func(l list) (list, error) { return region.Protect(l, from, to, perm) }
}

func wantAdd(t *testing.T, l list, r api.Region, want list) {
	t.Helper()
	wantList(t, told("Add", l, r), l, want, adding(r))
}

func wantNoAdd(t *testing.T, l list, r api.Region, want api.Errno) {
	t.Helper()
	wantNoList(t, told("Add", l, r), l, want, adding(r))
}

func wantCut(t *testing.T, l list, from, to int, want list) {
	t.Helper()
	wantList(t, told("Cut", l, from, to), l, want, cutting(from, to))
}

func wantNoCut(t *testing.T, l list, from, to int, want api.Errno) {
	t.Helper()
	wantNoList(t, told("Cut", l, from, to), l, want, cutting(from, to))
}

func wantProtect(t *testing.T, l list, from, to int, perm uint8, want list) {
	t.Helper()
	wantList(t, told("Protect", l, from, to, perm), l, want, protecting(from, to, perm))
}

func wantNoProtect(t *testing.T, l list, from, to int, perm uint8, want api.Errno) {
	t.Helper()
	wantNoList(t, told("Protect", l, from, to, perm), l, want, protecting(from, to, perm))
}

// wantAt holds which region a page is in; none of them: want is empty.
func wantAt(t *testing.T, l list, page int, want ...api.Region) {
	t.Helper()
	what := told("At", l, page)
	guard(t, what, l, func(l list) list {
		got, ok := region.At(l, page)
		if len(want) == 0 && (ok || got != api.Region{}) {
			t.Fatalf("%s: %v, %v, want none", what, got, ok)
		}
		if len(want) > 0 && (!ok || got != want[0]) {
			t.Fatalf("%s: %v, %v, want %v", what, got, ok, want[0])
		}
		return nil
	})
}

func wantHole(t *testing.T, l list, many, from, to, want int) {
	t.Helper()
	what := told("Hole", l, many, from, to)
	guard(t, what, l, func(l list) list {
		if got, err := region.Hole(l, many, from, to); got != want || err != nil {
			t.Fatalf("%s: %d, %v, want %d", what, got, err, want)
		}
		return nil
	})
}

func wantNoHole(t *testing.T, l list, many, from, to int, want api.Errno) {
	t.Helper()
	what := told("Hole", l, many, from, to)
	guard(t, what, l, func(l list) list {
		got, err := region.Hole(l, many, from, to)
		wantError(t, what, err, want)
		if got != 0 {
			t.Fatalf("%s: %d beside an error", what, got)
		}
		return nil
	})
}

func wantSize(t *testing.T, l list, want int) {
	t.Helper()
	what := told("Size", l)
	guard(t, what, l, func(l list) list {
		if got := region.Size(l); got != want {
			t.Fatalf("%s: %d, want %d", what, got, want)
		}
		return nil
	})
}

// The example of the chapter.
func TestExample(t *testing.T) {
	wantAdd(t, nil, re(2, 6, 3), list{re(2, 6, 3)})
	wantCut(t, list{re(2, 6, 3)}, 3, 4, list{re(2, 3, 3), re(4, 6, 3)})
}

func TestRE1Check(t *testing.T) {
	for _, l := range valid() {
		if err := check(t, l); err != nil {
			t.Errorf("%s: error %v", told("Check", l), err)
		}
	}
	if err := region.Check(nil); err != nil {
		t.Errorf("Check(nil): error %v", err)
	}
	for perm := range uint8(8) {
		for _, l := range []list{{re(3, 5, perm)}, {re(3, 5, perm), re(6, 9, perm)}, {re(3, 5, perm), re(5, 9, perm^1), re(9, 10, perm)}} {
			if err := check(t, l); err != nil {
				t.Errorf("%s: error %v", told("Check", l), err)
			}
		}
	}
}

// Each two uses of neighbours: only where they are the same, and the neighbours touch, there can't be such a list.
func TestRE1CheckNeighbours(t *testing.T) {
	for a := range uint8(8) {
		for b := range uint8(8) {
			for gap := range 3 {
				l := list{re(10, 12, a), re(12+gap, 15, b)}
				if err := check(t, l); (err != nil) != (gap == 0 && a == b) {
					t.Errorf("%s: error %v", told("Check", l), err)
				}
			}
		}
	}
}

func TestRE1CheckNot(t *testing.T) {
	for _, l := range broken() {
		wantError(t, told("Check", l), check(t, l), api.ErrArg)
	}
	for _, perm := range badPerms {
		wantError(t, fmt.Sprint("Check with Perm ", perm), check(t, list{re(3, 5, perm)}), api.ErrArg)
	}
	for _, r := range badRanges {
		wantError(t, fmt.Sprint("Check with the pages ", r), check(t, list{re(r[0], r[1], 1)}), api.ErrArg)
	}
}

// Every Perm, those that there can't be too.
func TestRE1Perms(t *testing.T) {
	for perm := range 256 {
		r := re(3, 5, uint8(perm))
		if perm > 7 {
			wantError(t, fmt.Sprint("Check with Perm ", perm), check(t, list{r}), api.ErrArg)
			wantNoAdd(t, nil, r, api.ErrArg)
			wantNoProtect(t, list{re(3, 5, 1)}, 3, 5, uint8(perm), api.ErrArg)
			continue
		}
		if err := check(t, list{r}); err != nil {
			t.Errorf("Check with Perm %d: error %v", perm, err)
		}
		wantAdd(t, nil, r, list{r})
		wantProtect(t, list{re(3, 5, 1)}, 3, 5, uint8(perm), list{r})
	}
}

func TestRE1Add(t *testing.T) {
	for _, c := range []struct {
		l    list
		r    api.Region
		want list
	}{
		{nil, re(2, 6, 3), list{re(2, 6, 3)}},
		{list{}, re(0, 4096, 0), list{re(0, 4096, 0)}},
		{nil, re(0, 1, 7), list{re(0, 1, 7)}},
		{nil, re(4095, 4096, 7), list{re(4095, 4096, 7)}},
		// Apart from all others: ahead of them, between them, and behind them.
		{list{re(10, 20, 5)}, re(3, 9, 5), list{re(3, 9, 5), re(10, 20, 5)}},
		{list{re(10, 20, 5)}, re(21, 30, 5), list{re(10, 20, 5), re(21, 30, 5)}},
		{list{re(10, 20, 5), re(30, 40, 5)}, re(21, 29, 5), list{re(10, 20, 5), re(21, 29, 5), re(30, 40, 5)}},
		{list{re(10, 20, 5), re(30, 40, 5)}, re(0, 1, 1), list{re(0, 1, 1), re(10, 20, 5), re(30, 40, 5)}},
		{list{re(10, 20, 5), re(30, 40, 5)}, re(4095, 4096, 1), list{re(10, 20, 5), re(30, 40, 5), re(4095, 4096, 1)}},
		// Touching one, which is used alike, or not.
		{list{re(10, 20, 5)}, re(3, 10, 5), list{re(3, 20, 5)}},
		{list{re(10, 20, 5)}, re(3, 10, 4), list{re(3, 10, 4), re(10, 20, 5)}},
		{list{re(10, 20, 5)}, re(20, 30, 5), list{re(10, 30, 5)}},
		{list{re(10, 20, 5)}, re(20, 30, 7), list{re(10, 20, 5), re(20, 30, 7)}},
		{list{re(10, 20, 0)}, re(20, 21, 0), list{re(10, 21, 0)}},
		{list{re(10, 20, 0)}, re(9, 10, 0), list{re(9, 20, 0)}},
		// A hole that is filled whole: one with both neighbours, with one, or with none.
		{list{re(10, 20, 5), re(30, 40, 5)}, re(20, 30, 5), list{re(10, 40, 5)}},
		{list{re(10, 20, 5), re(30, 40, 1)}, re(20, 30, 5), list{re(10, 30, 5), re(30, 40, 1)}},
		{list{re(10, 20, 1), re(30, 40, 5)}, re(20, 30, 5), list{re(10, 20, 1), re(20, 40, 5)}},
		{list{re(10, 20, 1), re(30, 40, 5)}, re(20, 30, 7), list{re(10, 20, 1), re(20, 30, 7), re(30, 40, 5)}},
		{list{re(10, 20, 5), re(30, 40, 5)}, re(20, 30, 7), list{re(10, 20, 5), re(20, 30, 7), re(30, 40, 5)}},
		{list{re(0, 1, 5), re(2, 3, 5), re(4, 4096, 5)}, re(1, 2, 5), list{re(0, 3, 5), re(4, 4096, 5)}},
		{list{re(0, 1, 5), re(2, 3, 5), re(4, 4096, 5)}, re(3, 4, 5), list{re(0, 1, 5), re(2, 4096, 5)}},
		{list{re(0, 2, 5), re(4094, 4096, 5)}, re(2, 4094, 5), list{re(0, 4096, 5)}},
		// Beside such a hole.
		{list{re(10, 20, 5), re(30, 40, 5)}, re(20, 29, 5), list{re(10, 29, 5), re(30, 40, 5)}},
		{list{re(10, 20, 5), re(30, 40, 5)}, re(21, 30, 5), list{re(10, 20, 5), re(21, 40, 5)}},
		// With neighbours that touch others.
		{list{re(5, 10, 1), re(10, 20, 5), re(30, 40, 5), re(40, 50, 1)}, re(20, 30, 5), list{re(5, 10, 1), re(10, 40, 5), re(40, 50, 1)}},
		{list{re(5, 10, 1), re(10, 20, 5), re(30, 40, 5), re(40, 50, 1)}, re(50, 51, 5), list{re(5, 10, 1), re(10, 20, 5), re(30, 40, 5), re(40, 50, 1), re(50, 51, 5)}},
		{list{re(5, 10, 1), re(10, 20, 5), re(30, 40, 5), re(40, 50, 1)}, re(0, 5, 1), list{re(0, 10, 1), re(10, 20, 5), re(30, 40, 5), re(40, 50, 1)}},
	} {
		wantAdd(t, c.l, c.r, c.want)
	}
}

// Each two uses of the region that is added and of a neighbour, on either side.
func TestRE1AddPerms(t *testing.T) {
	for a := range uint8(8) {
		for b := range uint8(8) {
			behind, ahead := list{re(10, 20, a), re(20, 22, b)}, list{re(7, 10, b), re(10, 20, a)}
			if a == b {
				behind, ahead = list{re(10, 22, a)}, list{re(7, 20, a)}
			}
			wantAdd(t, list{re(10, 20, a)}, re(20, 22, b), behind)
			wantAdd(t, list{re(10, 20, a)}, re(7, 10, b), ahead)
			wantAdd(t, list{re(10, 20, a)}, re(21, 22, b), list{re(10, 20, a), re(21, 22, b)})
			wantAdd(t, list{re(10, 20, a)}, re(7, 9, b), list{re(7, 9, b), re(10, 20, a)})
		}
	}
}

func TestRE1AddExist(t *testing.T) {
	l := list{re(10, 20, 5), re(20, 30, 1), re(40, 50, 1)}
	for _, r := range []api.Region{
		re(10, 20, 5), re(20, 30, 1), re(40, 50, 1), re(10, 11, 5), re(19, 20, 5), re(15, 16, 5), re(29, 30, 5), re(49, 50, 5), re(40, 41, 1),
		re(9, 11, 5), re(19, 21, 5), re(29, 31, 1), re(39, 41, 1), re(49, 51, 1), re(0, 11, 5), re(49, 4096, 1),
		re(30, 41, 1), re(29, 40, 1), re(29, 41, 1), re(0, 4096, 7), re(9, 51, 0), re(10, 50, 0), re(12, 45, 0), re(31, 45, 1), re(5, 35, 1),
	} {
		for perm := range uint8(8) {
			r.Perm = perm
			wantNoAdd(t, l, r, api.ErrExist)
		}
	}
	for _, page := range []int{0, 1, 2047, 4094, 4095} {
		wantNoAdd(t, singles(), re(page, page+1, 1), api.ErrExist)
		wantNoAdd(t, list{re(0, 4096, 1)}, re(page, page+1, 1), api.ErrExist)
		wantNoAdd(t, list{re(page, page+1, 1)}, re(0, 4096, 1), api.ErrExist)
	}
}

func TestRE1AddArg(t *testing.T) {
	for _, l := range []list{nil, {re(10, 20, 5)}, {re(0, 4096, 1)}, apart()} {
		for _, r := range badRanges {
			for _, perm := range []uint8{0, 1, 7, 8} {
				wantNoAdd(t, l, re(r[0], r[1], perm), api.ErrArg)
			}
		}
		for _, perm := range badPerms {
			for _, r := range []api.Region{re(0, 1, perm), re(10, 20, perm), re(20, 30, perm), re(12, 13, perm), re(0, 4096, perm), re(4095, 4096, perm)} {
				wantNoAdd(t, l, r, api.ErrArg)
			}
		}
	}
}

func TestRE1Great(t *testing.T) {
	l := apart()
	for page := 1; page < api.Pages; page += 2 {
		one := append(slices.Clone(l[:page/2+1]), re(page, page+1, 1))
		wantAdd(t, l, re(page, page+1, 1), append(one, l[page/2+1:]...))
		if page%511 != 1 {
			continue
		}
		alike := slices.Clone(l)
		if page < api.Pages-1 {
			alike = slices.Delete(alike, page/2+1, page/2+2)
			alike[page/2].To++
		}
		alike[page/2].To++
		wantAdd(t, l, re(page, page+1, 5), alike)
	}
	wantAdd(t, singles()[:4095], re(4095, 4096, 7), singles())
	wantAdd(t, singles()[1:], re(0, 1, 0), singles())
}

func TestRE2Cut(t *testing.T) {
	l := list{re(10, 20, 5), re(20, 30, 1), re(40, 50, 1)}
	for _, c := range []struct {
		l        list
		from, to int
		want     list
	}{
		{nil, 0, 4096, nil}, {nil, 0, 1, nil}, {nil, 4095, 4096, nil},
		// Over none.
		{l, 0, 1, l}, {l, 0, 10, l}, {l, 9, 10, l}, {l, 30, 40, l}, {l, 30, 31, l}, {l, 39, 40, l}, {l, 50, 51, l}, {l, 50, 4096, l}, {l, 4095, 4096, l},
		// Over all.
		{l, 0, 4096, nil}, {l, 10, 50, nil}, {l, 9, 51, nil}, {list{re(0, 4096, 7)}, 0, 4096, nil}, {list{re(4095, 4096, 7)}, 4095, 4096, nil}, {list{re(0, 1, 7)}, 0, 1, nil},
		// Over a part of a region: its beginning, its end, and within it.
		{list{re(10, 20, 5)}, 10, 11, list{re(11, 20, 5)}}, {list{re(10, 20, 5)}, 10, 19, list{re(19, 20, 5)}}, {list{re(10, 20, 5)}, 0, 15, list{re(15, 20, 5)}}, {list{re(10, 20, 5)}, 9, 11, list{re(11, 20, 5)}},
		{list{re(10, 20, 5)}, 19, 20, list{re(10, 19, 5)}}, {list{re(10, 20, 5)}, 11, 20, list{re(10, 11, 5)}}, {list{re(10, 20, 5)}, 15, 4096, list{re(10, 15, 5)}}, {list{re(10, 20, 5)}, 19, 21, list{re(10, 19, 5)}},
		{list{re(10, 20, 5)}, 11, 19, list{re(10, 11, 5), re(19, 20, 5)}}, {list{re(10, 20, 5)}, 14, 15, list{re(10, 14, 5), re(15, 20, 5)}},
		{list{re(0, 4096, 0)}, 1, 4095, list{re(0, 1, 0), re(4095, 4096, 0)}}, {list{re(0, 4096, 0)}, 0, 1, list{re(1, 4096, 0)}}, {list{re(0, 4096, 0)}, 4095, 4096, list{re(0, 4095, 0)}},
		// A region, and nothing else.
		{l, 10, 20, list{re(20, 30, 1), re(40, 50, 1)}}, {l, 20, 30, list{re(10, 20, 5), re(40, 50, 1)}}, {l, 40, 50, list{re(10, 20, 5), re(20, 30, 1)}}, {l, 30, 50, list{re(10, 20, 5), re(20, 30, 1)}}, {l, 0, 20, list{re(20, 30, 1), re(40, 50, 1)}},
		// Over several.
		{l, 19, 21, list{re(10, 19, 5), re(21, 30, 1), re(40, 50, 1)}}, {l, 15, 45, list{re(10, 15, 5), re(45, 50, 1)}}, {l, 25, 45, list{re(10, 20, 5), re(20, 25, 1), re(45, 50, 1)}},
		{l, 15, 30, list{re(10, 15, 5), re(40, 50, 1)}}, {l, 20, 45, list{re(10, 20, 5), re(45, 50, 1)}}, {l, 0, 45, list{re(45, 50, 1)}}, {l, 15, 4096, list{re(10, 15, 5)}}, {l, 11, 49, list{re(10, 11, 5), re(49, 50, 1)}},
		// What is left on both sides doesn't touch, though it is used alike.
		{list{re(1, 2, 3), re(2, 3, 4), re(3, 4, 3)}, 2, 3, list{re(1, 2, 3), re(3, 4, 3)}},
	} {
		wantCut(t, c.l, c.from, c.to, c.want)
	}
	for perm := range uint8(8) {
		wantCut(t, list{re(10, 20, perm)}, 12, 13, list{re(10, 12, perm), re(13, 20, perm)})
	}
}

func TestRE2CutArg(t *testing.T) {
	for _, l := range []list{nil, {re(10, 20, 5)}, {re(0, 4096, 1)}, apart(), singles()} {
		for _, r := range badRanges {
			wantNoCut(t, l, r[0], r[1], api.ErrArg)
		}
	}
}

func TestRE2Protect(t *testing.T) {
	l := list{re(10, 20, 5), re(20, 30, 1), re(40, 50, 1)}
	for _, c := range []struct {
		l        list
		from, to int
		perm     uint8
		want     list
	}{
		// Over a part of a region: its beginning, its end, within it, and the whole of it.
		{l, 10, 11, 7, list{re(10, 11, 7), re(11, 20, 5), re(20, 30, 1), re(40, 50, 1)}},
		{l, 19, 20, 7, list{re(10, 19, 5), re(19, 20, 7), re(20, 30, 1), re(40, 50, 1)}},
		{l, 13, 17, 7, list{re(10, 13, 5), re(13, 17, 7), re(17, 20, 5), re(20, 30, 1), re(40, 50, 1)}},
		{l, 10, 20, 7, list{re(10, 20, 7), re(20, 30, 1), re(40, 50, 1)}},
		{l, 20, 30, 7, list{re(10, 20, 5), re(20, 30, 7), re(40, 50, 1)}},
		{l, 40, 50, 7, list{re(10, 20, 5), re(20, 30, 1), re(40, 50, 7)}},
		{l, 49, 50, 0, list{re(10, 20, 5), re(20, 30, 1), re(40, 49, 1), re(49, 50, 0)}},
		{l, 40, 41, 0, list{re(10, 20, 5), re(20, 30, 1), re(40, 41, 0), re(41, 50, 1)}},
		// Over several, and over all.
		{l, 10, 30, 7, list{re(10, 30, 7), re(40, 50, 1)}},
		{l, 15, 25, 7, list{re(10, 15, 5), re(15, 25, 7), re(25, 30, 1), re(40, 50, 1)}},
		{l, 19, 21, 0, list{re(10, 19, 5), re(19, 21, 0), re(21, 30, 1), re(40, 50, 1)}},
		{l, 10, 25, 7, list{re(10, 25, 7), re(25, 30, 1), re(40, 50, 1)}},
		{l, 15, 30, 7, list{re(10, 15, 5), re(15, 30, 7), re(40, 50, 1)}},
		{list{re(0, 4096, 7)}, 0, 4096, 0, list{re(0, 4096, 0)}},
		{list{re(0, 9, 7), re(9, 70, 6), re(70, 4096, 5)}, 0, 4096, 3, list{re(0, 4096, 3)}},
		{list{re(0, 4096, 7)}, 0, 1, 3, list{re(0, 1, 3), re(1, 4096, 7)}},
		{list{re(0, 4096, 7)}, 4095, 4096, 3, list{re(0, 4095, 7), re(4095, 4096, 3)}},
		{list{re(0, 4096, 7)}, 1, 4095, 3, list{re(0, 1, 7), re(1, 4095, 3), re(4095, 4096, 7)}},
		{list{re(4095, 4096, 7)}, 4095, 4096, 3, list{re(4095, 4096, 3)}},
		// With the Perm that they have.
		{l, 10, 11, 5, l}, {l, 19, 20, 5, l}, {l, 13, 17, 5, l}, {l, 10, 20, 5, l}, {l, 20, 30, 1, l}, {l, 40, 50, 1, l}, {l, 20, 21, 1, l}, {l, 49, 50, 1, l},
		{singles(), 0, 1, 0, singles()}, {singles(), 2047, 2048, 7, singles()}, {singles(), 4095, 4096, 7, singles()},
		// With the Perm of a neighbour, or of both.
		{l, 10, 20, 1, list{re(10, 30, 1), re(40, 50, 1)}},
		{l, 20, 30, 5, list{re(10, 30, 5), re(40, 50, 1)}},
		{l, 10, 30, 5, list{re(10, 30, 5), re(40, 50, 1)}},
		{l, 10, 30, 1, list{re(10, 30, 1), re(40, 50, 1)}},
		{l, 19, 20, 1, list{re(10, 19, 5), re(19, 30, 1), re(40, 50, 1)}},
		{l, 20, 21, 5, list{re(10, 21, 5), re(21, 30, 1), re(40, 50, 1)}},
		{l, 15, 25, 1, list{re(10, 15, 5), re(15, 30, 1), re(40, 50, 1)}},
		{l, 15, 25, 5, list{re(10, 25, 5), re(25, 30, 1), re(40, 50, 1)}},
		{l, 10, 15, 1, list{re(10, 15, 1), re(15, 20, 5), re(20, 30, 1), re(40, 50, 1)}},
		{l, 25, 30, 5, list{re(10, 20, 5), re(20, 25, 1), re(25, 30, 5), re(40, 50, 1)}},
		{list{re(1, 2, 3), re(2, 3, 4), re(3, 4, 3)}, 2, 3, 3, list{re(1, 4, 3)}},
		{list{re(1, 2, 3), re(2, 3, 4), re(3, 4, 3)}, 1, 3, 3, list{re(1, 4, 3)}},
		{list{re(1, 2, 3), re(2, 3, 4), re(3, 4, 3)}, 2, 4, 3, list{re(1, 4, 3)}},
		{list{re(1, 2, 3), re(2, 3, 4), re(3, 4, 3)}, 1, 2, 4, list{re(1, 3, 4), re(3, 4, 3)}},
		{list{re(1, 2, 3), re(2, 3, 4), re(3, 4, 3)}, 3, 4, 4, list{re(1, 2, 3), re(2, 4, 4)}},
		{list{re(1, 2, 3), re(2, 3, 4), re(3, 4, 3)}, 2, 3, 0, list{re(1, 2, 3), re(2, 3, 0), re(3, 4, 3)}},
		{list{re(0, 2, 3), re(2, 4, 4), re(4, 5, 5), re(5, 9, 3)}, 2, 5, 3, list{re(0, 9, 3)}},
		{list{re(0, 2, 3), re(2, 4, 4), re(4, 5, 5), re(6, 9, 3)}, 2, 5, 3, list{re(0, 5, 3), re(6, 9, 3)}},
	} {
		wantProtect(t, c.l, c.from, c.to, c.perm, c.want)
	}
}

// Each use that pages have, and each that they get.
func TestRE2ProtectPerms(t *testing.T) {
	for a := range uint8(8) {
		for b := range uint8(8) {
			wantProtect(t, list{re(10, 20, a)}, 10, 20, b, list{re(10, 20, b)})
			within, begin, end := list{re(10, 20, a)}, list{re(10, 20, a)}, list{re(10, 20, a)}
			if a != b {
				within = list{re(10, 12, a), re(12, 15, b), re(15, 20, a)}
				begin, end = list{re(10, 12, b), re(12, 20, a)}, list{re(10, 15, a), re(15, 20, b)}
			}
			wantProtect(t, list{re(10, 20, a)}, 12, 15, b, within)
			wantProtect(t, list{re(10, 20, a)}, 10, 12, b, begin)
			wantProtect(t, list{re(10, 20, a)}, 15, 20, b, end)
		}
	}
}

func TestRE2ProtectMemory(t *testing.T) {
	l := list{re(10, 20, 5), re(20, 30, 1), re(40, 50, 1)}
	for _, r := range [][2]int{
		// None of the pages is there.
		{0, 1}, {0, 10}, {9, 10}, {30, 31}, {30, 40}, {39, 40}, {50, 51}, {50, 4096}, {4095, 4096},
		// All are there but one: the first, the last, or one between.
		{9, 20}, {9, 30}, {9, 11}, {10, 31}, {20, 31}, {29, 31}, {39, 50}, {39, 41}, {40, 51}, {49, 51},
		// More of them are not there.
		{9, 31}, {0, 30}, {10, 50}, {29, 41}, {25, 45}, {10, 4096}, {0, 4096}, {30, 41}, {29, 40}, {9, 51},
	} {
		for perm := range uint8(8) {
			wantNoProtect(t, l, r[0], r[1], perm, api.ErrMemory)
			wantNoProtect(t, nil, r[0], r[1], perm, api.ErrMemory)
		}
	}
	for _, page := range []int{0, 1, 2047, 4094, 4095} {
		all := slices.Delete(singles(), page, page+1)
		wantNoProtect(t, all, 0, 4096, 1, api.ErrMemory)
		wantNoProtect(t, all, page, page+1, 1, api.ErrMemory)
		if page > 0 {
			wantProtect(t, all, 0, page, 1, append(list{re(0, page, 1)}, all[page:]...))
			wantNoProtect(t, all, 0, page+1, 1, api.ErrMemory)
		}
		if page < 4095 {
			wantNoProtect(t, all, page, 4096, 1, api.ErrMemory)
		}
	}
}

// Pages that can't be, and uses that can't be, come before pages that are not there.
func TestRE2ProtectArg(t *testing.T) {
	for _, l := range []list{nil, {re(10, 20, 5)}, {re(0, 4096, 1)}, apart(), singles()} {
		for _, r := range badRanges {
			for _, perm := range []uint8{0, 5, 7, 8} {
				wantNoProtect(t, l, r[0], r[1], perm, api.ErrArg)
			}
		}
		for _, perm := range badPerms {
			for _, r := range [][2]int{{0, 1}, {10, 20}, {9, 20}, {12, 13}, {0, 4096}, {4095, 4096}} {
				wantNoProtect(t, l, r[0], r[1], perm, api.ErrArg)
			}
		}
	}
}

func TestRE3At(t *testing.T) {
	l := list{re(10, 20, 5), re(20, 30, 1), re(40, 50, 0)}
	for page := range api.Pages {
		wantAt(t, nil, page)
		wantAt(t, list{re(0, 4096, 7)}, page, re(0, 4096, 7))
		switch {
		case page >= 10 && page < 20:
			wantAt(t, l, page, re(10, 20, 5))
		case page >= 20 && page < 30:
			wantAt(t, l, page, re(20, 30, 1))
		case page >= 40 && page < 50:
			wantAt(t, l, page, re(40, 50, 0))
		default:
			wantAt(t, l, page)
		}
	}
	for _, page := range []int{0, 1, 2, 2046, 2047, 2048, 4094, 4095} {
		wantAt(t, list{re(page, page+1, 0)}, page, re(page, page+1, 0))
		wantAt(t, list{re(page, page+1, 0)}, page-1)
		wantAt(t, list{re(page, page+1, 0)}, page+1)
		wantAt(t, singles(), page, re(page, page+1, uint8(page%8)))
	}
}

func TestRE3AtNoPage(t *testing.T) {
	for _, page := range badPages {
		for _, l := range valid() {
			wantAt(t, l, page)
		}
	}
}

func TestRE3Hole(t *testing.T) {
	l := list{re(10, 20, 5), re(20, 30, 1), re(40, 50, 1), re(53, 60, 1)}
	for _, c := range []struct {
		l                    list
		many, from, to, want int
	}{
		// No region.
		{nil, 1, 0, 4096, 0}, {nil, 4096, 0, 4096, 0}, {nil, 1, 4095, 4096, 4095}, {nil, 1, 0, 1, 0}, {nil, 4095, 1, 4096, 1}, {nil, 4095, 0, 4096, 0}, {nil, 5, 7, 12, 7}, {nil, 2, 4094, 4096, 4094},
		// Ahead of the first one: greater, just as great, and too small.
		{l, 9, 0, 4096, 0}, {l, 10, 0, 4096, 0}, {l, 11, 0, 4096, 60}, {l, 1, 9, 4096, 9}, {l, 2, 9, 4096, 30}, {l, 5, 5, 4096, 5}, {l, 6, 5, 4096, 30}, {l, 4, 5, 4096, 5},
		// Between two.
		{l, 9, 2, 4096, 30}, {l, 10, 1, 4096, 30}, {l, 11, 10, 4096, 60}, {l, 3, 40, 4096, 50}, {l, 2, 40, 4096, 50}, {l, 4, 40, 4096, 60}, {l, 3, 50, 4096, 50}, {l, 3, 51, 4096, 60}, {l, 2, 51, 4096, 51}, {l, 1, 52, 53, 52}, {l, 1, 39, 4096, 39}, {l, 2, 39, 4096, 50}, {l, 4, 39, 4096, 60},
		// From within a region on, from its ends on, and across regions that touch.
		{l, 1, 10, 4096, 30}, {l, 1, 15, 4096, 30}, {l, 1, 19, 4096, 30}, {l, 1, 20, 4096, 30}, {l, 1, 29, 4096, 30}, {l, 1, 30, 4096, 30}, {l, 1, 45, 4096, 50}, {l, 1, 49, 4096, 50}, {l, 1, 59, 4096, 60}, {l, 1, 31, 4096, 31},
		// Behind the last one.
		{l, 4036, 0, 4096, 60}, {l, 4035, 0, 4096, 60}, {l, 4036, 60, 4096, 60}, {l, 4035, 61, 4096, 61}, {l, 1, 4095, 4096, 4095}, {l, 100, 3996, 4096, 3996}, {l, 11, 12, 71, 60},
		// Up to where there is just room.
		{l, 10, 0, 10, 0}, {l, 1, 0, 1, 0}, {l, 10, 5, 40, 30}, {l, 3, 40, 53, 50}, {l, 5, 30, 35, 30}, {l, 5, 30, 36, 30}, {l, 1, 60, 61, 60}, {l, 1, 55, 61, 60}, {l, 1, 0, 4, 0},
		// All but one page, and holes at the ends.
		{list{re(0, 4095, 1)}, 1, 0, 4096, 4095}, {list{re(1, 4096, 1)}, 1, 0, 4096, 0}, {list{re(0, 2000, 1), re(2001, 4096, 1)}, 1, 0, 4096, 2000}, {list{re(0, 1, 0)}, 4095, 0, 4096, 1}, {list{re(4095, 4096, 0)}, 4095, 0, 4096, 0},
		{apart(), 1, 0, 4096, 1}, {apart(), 1, 2, 4096, 3}, {apart(), 1, 4095, 4096, 4095}, {apart(), 1, 4094, 4096, 4095}, {append(apart()[:1000], re(2001, 4096, 5)), 2, 0, 4096, 1999}, {apart()[:2000], 97, 0, 4096, 3999}, {apart()[:2000], 2, 0, 4096, 3999},
	} {
		wantHole(t, c.l, c.many, c.from, c.to, c.want)
	}
}

func TestRE3HoleMemory(t *testing.T) {
	l := list{re(10, 20, 5), re(20, 30, 1), re(40, 50, 1), re(53, 60, 1)}
	for _, c := range []struct {
		l              list
		many, from, to int
	}{
		// More than there is from one on, up to the other one.
		{nil, 2, 0, 1}, {nil, 4096, 0, 4095}, {nil, 4096, 1, 4096}, {nil, 2, 4095, 4096}, {nil, 4096, 4095, 4096}, {nil, 6, 7, 12}, {nil, 4096, 7, 12},
		// A hole that is one page too small.
		{l, 11, 0, 59}, {l, 11, 0, 70}, {l, 4037, 0, 4096}, {l, 4096, 0, 4096}, {l, 11, 0, 40}, {l, 4, 40, 63}, {l, 4, 40, 60},
		// A hole that `to` cuts short, or `from`.
		{l, 10, 0, 9}, {l, 10, 5, 39}, {l, 10, 31, 45}, {l, 3, 40, 52}, {l, 2, 40, 51}, {l, 3, 51, 60}, {l, 4036, 0, 4095}, {l, 4036, 61, 4096}, {l, 5, 32, 36},
		// No page is free there.
		{l, 1, 10, 30}, {l, 1, 10, 11}, {l, 1, 29, 30}, {l, 1, 15, 25}, {l, 1, 40, 50}, {l, 1, 53, 60}, {l, 1, 59, 60}, {list{re(0, 4096, 0)}, 1, 0, 4096}, {singles(), 1, 0, 4096}, {singles(), 4096, 0, 4096}, {list{re(0, 4096, 0)}, 1, 4095, 4096},
		{apart(), 2, 0, 4096}, {apart(), 4096, 0, 4096}, {apart(), 1, 4094, 4095}, {apart(), 1, 0, 1},
	} {
		wantNoHole(t, c.l, c.many, c.from, c.to, api.ErrMemory)
	}
}

// Pages that can't be, and numbers of pages that can't be, come before a hole that is not there.
func TestRE3HoleArg(t *testing.T) {
	for _, l := range []list{nil, {re(10, 20, 5)}, {re(0, 4096, 1)}, apart(), singles()} {
		for _, r := range badRanges {
			for _, many := range []int{1, 2, 4096, 0, 4097} {
				wantNoHole(t, l, many, r[0], r[1], api.ErrArg)
			}
		}
		for _, many := range badMany {
			for _, r := range [][2]int{{0, 4096}, {0, 1}, {10, 20}, {5, 6}, {4095, 4096}} {
				wantNoHole(t, l, many, r[0], r[1], api.ErrArg)
			}
		}
	}
}

func TestRE3Size(t *testing.T) {
	for _, c := range []struct {
		l    list
		want int
	}{
		{nil, 0}, {list{}, 0}, {list{re(0, 1, 0)}, 1}, {list{re(4095, 4096, 7)}, 1}, {list{re(0, 4096, 7)}, 4096}, {list{re(2, 6, 3)}, 4},
		{list{re(2, 6, 3), re(6, 9, 0)}, 7}, {list{re(2, 6, 3), re(8, 9, 3)}, 5}, {list{re(10, 20, 5), re(20, 30, 1), re(40, 50, 0), re(53, 60, 1)}, 37}, {list{re(0, 1, 0), re(4095, 4096, 0)}, 2},
		{singles(), 4096}, {apart(), 2048}, {singles()[:4095], 4095}, {singles()[1:], 4095},
	} {
		wantSize(t, c.l, c.want)
	}
}

// With a list that can't be, nothing works, whatever is asked for: also not where only regions that may be matter.
func TestBrokenLists(t *testing.T) {
	for _, l := range broken() {
		wantSize(t, l, 0)
		for _, page := range []int{-1, 0, 1, 5, 6, 8, 9, 2048, 4094, 4095, 4096} {
			wantAt(t, l, page)
		}
		for _, r := range [][2]int{{0, 4096}, {0, 1}, {5, 6}, {8, 9}, {100, 101}, {4095, 4096}, {5, 5}, {-1, 5}, {0, 4097}} {
			for _, perm := range []uint8{1, 2, 7, 8} {
				wantNoAdd(t, l, re(r[0], r[1], perm), api.ErrArg)
				wantNoProtect(t, l, r[0], r[1], perm, api.ErrArg)
			}
			wantNoCut(t, l, r[0], r[1], api.ErrArg)
			for _, many := range []int{0, 1, 4096, 4097} {
				wantNoHole(t, l, many, r[0], r[1], api.ErrArg)
			}
		}
	}
}
