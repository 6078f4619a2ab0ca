package file_test

import (
	"fmt"
	"math"
	"testing"

	"halter/file"
)

func TestFI1Kinds(t *testing.T) {
	if file.Node != 0 || file.In != 1 || file.Out != 2 || file.Proc != 3 {
		t.Errorf("the kinds are %d, %d, %d, %d, want 0, 1, 2, 3", file.Node, file.In, file.Out, file.Proc)
	}
}

func TestFI1New(t *testing.T) {
	for most := 1; most <= 32; most++ {
		k := made(t, most)
		k.rows(row{list(), listed()})
		for n := range most {
			k.all(9, get(n), ref(n), unref(n), move(n, 0))
		}
		for n := range most {
			k.rows(row{open(sample(n)), num(n)})
		}
		k.all(23, open(sample(0)))
	}
	for _, most := range []int{math.MinInt, math.MinInt + 1, -1 << 32, -1<<32 + 1, math.MinInt32, -256, -32, -2, -1, 0, 33, 34, 63, 64, 65, 256, 257, 1<<16 + 1, math.MaxInt32, 1 << 32, 1<<32 + 1, 1<<32 + 32, math.MaxInt} {
		x, err := file.New(most)
		if x != nil || number(err) != 22 {
			t.Errorf("New(%d): %v, %v, want error 22 alone", most, x, err)
		}
	}
}

// What there is in an ordinary table, one call behind the other.
func TestFI1Ordinary(t *testing.T) {
	text := file.File{Kind: file.Node, ID: 3, Read: true}
	in := file.File{Kind: file.In, ID: 1, Read: true}
	out := file.File{Kind: file.Out, ID: 1, Write: true}
	maps := file.File{Kind: file.Proc, ID: 12, Off: 7, Read: true, Name: "maps"}
	made(t, 3).rows(
		row{list(), listed()},
		row{open(text), num(0)},
		row{list(), listed(0)},
		row{open(in), num(1)},
		row{open(out), num(2)},
		row{list(), listed(0, 1, 2)},
		row{open(maps), bad(23)},
		row{get(0), has(taken(text, 1))},
		row{get(1), has(taken(in, 1))},
		row{get(2), has(taken(out, 1))},
		row{ref(1), done},
		row{get(1), has(taken(in, 2))},
		row{get(0), has(taken(text, 1))},
		row{get(2), has(taken(out, 1))},
		row{unref(1), left(taken(in, 1))},
		row{list(), listed(0, 1, 2)},
		row{unref(1), last(taken(in, 0))},
		row{list(), listed(0, 2)},
		row{get(1), bad(9)},
		row{ref(1), bad(9)},
		row{unref(1), bad(9)},
		row{move(1, 5), bad(9)},
		row{open(maps), num(1)},
		row{get(1), has(taken(maps, 1))},
		row{move(1, 20), done},
		row{get(1), has(taken(moved(maps, 20), 1))},
		row{get(0), has(taken(text, 1))},
		row{get(2), has(taken(out, 1))},
		row{ref(1), done},
		row{get(1), has(taken(moved(maps, 20), 2))},
		row{move(1, 0), done},
		row{unref(1), left(taken(moved(maps, 0), 1))},
		row{move(1, mostNumber), done},
		row{unref(1), last(moved(maps, mostNumber))},
		row{list(), listed(0, 2)},
		row{unref(2), last(out)},
		row{unref(0), last(text)},
		row{list(), listed()},
	)
}

// Every valid file comes back as it was, with Refs 1.
func TestFI1OpenEveryFile(t *testing.T) {
	k := made(t, 2).rows(row{open(sample(7)), num(0)})
	for kind := range 4 {
		for _, id := range goodNumbers {
			for _, off := range goodNumbers {
				for _, name := range goodNames {
					for ways := range 4 {
						f := file.File{Kind: kind, ID: id, Off: off, Read: ways&1 > 0, Write: ways&2 > 0, Name: name}
						k.call(open(f))
						if got := get(1).do(t, k.x); !got.is(has(taken(f, 1))) {
							t.Fatalf("%v of %s: %v", get(1), told(f), got)
						}
						k.call(unref(1))
					}
				}
			}
		}
	}
	k.alike("all files").release("all files")
}

// The Refs of the file that is opened mean nothing.
func TestFI1OpenRefs(t *testing.T) {
	for _, refs := range []int{math.MinInt, -1 << 32, -1, 0, 1, 2, mostRefs - 1, mostRefs, mostRefs + 1, 1 << 32, math.MaxInt} {
		f := sample(4)
		made(t, 2).rows(
			row{open(taken(f, refs)), num(0)},
			row{get(0), has(taken(f, 1))},
			row{open(taken(f, refs)), num(1)},
			row{ref(0), done},
			row{get(0), has(taken(f, 2))},
			row{unref(0), left(taken(f, 1))},
			row{unref(1), last(f)},
			row{unref(0), last(f)},
			row{unref(0), bad(9)},
			row{list(), listed()},
		)
	}
}

// The same file can be opened often: each time it is another one.
func TestFI1OpenTheSame(t *testing.T) {
	f := sample(2)
	k := made(t, 32)
	for n := range 32 {
		k.rows(row{open(f), num(n)})
	}
	k.rows(row{open(f), bad(23)}, row{move(3, 9), done}, row{ref(3), done}, row{get(2), has(taken(f, 1))}, row{get(3), has(taken(moved(f, 9), 2))}, row{get(4), has(taken(f, 1))})
	k.release("opening the same")
}

func TestFI1OpenTakesTheLeast(t *testing.T) {
	k := filled(t, 8)
	for _, n := range []int{6, 2, 4} {
		k.call(unref(n))
	}
	k.rows(
		row{list(), listed(0, 1, 3, 5, 7)},
		row{open(sample(20)), num(2)},
		row{unref(0), last(sample(0))},
		row{open(sample(21)), num(0)},
		row{open(sample(22)), num(4)},
		row{unref(7), last(sample(7))},
		row{unref(3), last(sample(3))},
		row{open(sample(23)), num(3)},
		row{open(sample(24)), num(6)},
		row{open(sample(25)), num(7)},
		row{open(sample(26)), bad(23)},
		row{get(2), has(taken(sample(20), 1))},
		row{list(), listed(0, 1, 2, 3, 4, 5, 6, 7)},
	).release("opening")
	few := made(t, 32).rows(row{open(sample(0)), num(0)}, row{open(sample(1)), num(1)}, row{open(sample(2)), num(2)})
	few.rows(row{unref(1), last(sample(1))}, row{open(sample(3)), num(1)}, row{open(sample(4)), num(3)}, row{list(), listed(0, 1, 2, 3)}).release("opening")
}

// Full tables, and full ones in which each number in turn is free again.
func TestFI1OpenFull(t *testing.T) {
	for _, most := range []int{1, 2, 3, 31, 32} {
		k := filled(t, most)
		for n := range most {
			f := moved(sample(40+n), n)
			k.all(23, open(f), open(f))
			k.rows(row{ref(n), done}, row{unref(n), left(taken(sample(n), 1))})
			k.all(23, open(f))
			k.rows(row{unref(n), last(sample(n))}, row{open(f), num(n)})
			k.all(23, open(f))
		}
		k.release(fmt.Sprintf("filling %d", most))
	}
}

func TestFI1Get(t *testing.T) {
	for _, most := range []int{1, 2, 31, 32} {
		k := filled(t, most)
		for n := range most {
			for range 3 {
				k.rows(row{get(n), has(taken(sample(n), 1))})
			}
		}
	}
}

// Files that are given back as often as they were taken, in each place of tables of each size; the others stay.
func TestFI1RefAndUnref(t *testing.T) {
	for _, most := range []int{1, 2, 3, 31, 32} {
		for _, n := range []int{0, most / 2, most - 1} {
			k, f := filled(t, most), sample(n)
			for refs := 2; refs <= 20; refs++ {
				k.rows(row{ref(n), done}, row{get(n), has(taken(f, refs))})
			}
			for refs := 19; refs >= 1; refs-- {
				k.rows(row{unref(n), left(taken(f, refs))}, row{get(n), has(taken(f, refs))})
			}
			k.rows(row{unref(n), last(taken(f, 0))})
			k.all(9, unref(n), ref(n), get(n), move(n, 1))
			k.rows(row{open(f), num(n)}, row{get(n), has(taken(f, 1))}).release("all")
		}
	}
}

// A file is referred to as often as it can be, and given back as often, and once more.
func TestFI1MostRefs(t *testing.T) {
	for n := range 3 {
		k, f := filled(t, 3), sample(n)
		for refs := 2; refs <= mostRefs; refs++ {
			if got := ref(n).do(t, k.x); !got.is(done) {
				t.Fatalf("Ref at %d: %v", refs-1, got)
			}
			if refs == 2 || refs == 65537 || refs >= mostRefs-1 {
				k.m.files[n].taken = refs
				k.rows(row{get(n), has(taken(f, refs))})
			}
		}
		k.all(22, ref(n), ref(n))
		k.rows(row{get(n), has(taken(f, mostRefs))}, row{unref(n), left(taken(f, mostRefs-1))}, row{ref(n), done}, row{get(n), has(taken(f, mostRefs))})
		k.all(22, ref(n))
		k.rows(row{move(n, 3), done}, row{move(n, f.Off), done}, row{ref((n + 1) % 3), done}, row{unref(n), left(taken(f, mostRefs-1))})
		for refs := mostRefs - 2; refs >= 1; refs-- {
			if got := unref(n).do(t, k.x); !got.is(left(taken(f, refs))) {
				t.Fatalf("Unref to %d: %v", refs, got)
			}
		}
		k.m.files[n].given = k.m.files[n].taken - 1
		k.rows(row{get(n), has(taken(f, 1))}, row{unref(n), last(f)})
		k.all(9, unref(n), ref(n))
		k.release("2^20 Refs")
	}
}

// Unref answers the file as it is then, with what was done to it since.
func TestFI1UnrefAsItIs(t *testing.T) {
	for n := range 4 {
		f := sample(n)
		filled(t, 4).rows(
			row{ref(n), done}, row{ref(n), done},
			row{move(n, 77), done},
			row{unref(n), left(taken(moved(f, 77), 2))},
			row{move(n, 0), done},
			row{unref(n), left(taken(moved(f, 0), 1))},
			row{move(n, mostNumber), done},
			row{unref(n), last(moved(f, mostNumber))},
			row{open(file.File{Kind: 3 - n%4}), num(n)},
			row{unref(n), last(file.File{Kind: 3 - n%4})},
		).release("all")
	}
}

// Off is set, and nothing but it, of files of each kind.
func TestFI1Move(t *testing.T) {
	for _, most := range []int{1, 2, 31, 32} {
		k := filled(t, most)
		for n := range min(most, 5) {
			f := sample(n)
			for _, off := range goodNumbers {
				k.rows(row{move(n, off), done}, row{get(n), has(taken(moved(f, off), 1))})
				k.rows(row{move(n, off), done}, row{get(n), has(taken(moved(f, off), 1))})
				for _, wrong := range badNumbers {
					k.call(move(n, wrong))
				}
				k.rows(row{get(n), has(taken(moved(f, off), 1))})
			}
			for _, wrong := range badNumbers {
				k.all(22, move(n, wrong))
			}
		}
		k.release("moving")
	}
}

// Every set of numbers that there can be in a small table, and each number alone or missing in a great one.
func TestFI1List(t *testing.T) {
	for set := range 1 << 8 {
		k := filled(t, 8)
		var want []int
		for n := range 8 {
			if set>>n&1 > 0 {
				want = append(want, n)
				continue
			}
			k.call(unref(n))
		}
		k.rows(row{list(), listed(want...)}, row{list(), listed(want...)}).release("List")
	}
	for n := range 32 {
		alone, missing := filled(t, 32), filled(t, 32)
		missing.call(unref(n))
		var others []int
		for other := range 32 {
			if other != n {
				others = append(others, other)
				alone.call(unref(other))
			}
		}
		alone.rows(row{list(), listed(n)})
		missing.rows(row{list(), listed(others...)})
	}
}

// Numbers are ascending in whatever order files come and go.
func TestFI1ListAscends(t *testing.T) {
	filled(t, 5).rows(
		row{unref(3), last(sample(3))}, row{list(), listed(0, 1, 2, 4)},
		row{unref(0), last(sample(0))}, row{list(), listed(1, 2, 4)},
		row{unref(1), last(sample(1))}, row{list(), listed(2, 4)},
		row{open(sample(9)), num(0)}, row{list(), listed(0, 2, 4)},
		row{unref(2), last(sample(2))}, row{list(), listed(0, 4)},
		row{open(sample(10)), num(1)}, row{list(), listed(0, 1, 4)},
		row{ref(4), done}, row{list(), listed(0, 1, 4)},
		row{unref(4), left(taken(sample(4), 1))}, row{list(), listed(0, 1, 4)},
	).release("all")
}
