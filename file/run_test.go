package file_test

import (
	"fmt"
	"math"
	"strings"
	"testing"

	"halter/file"
)

// runs does every run of so many calls with a table that is made anew for each.
func runs(t *testing.T, start func() *table, calls []call, length int) {
	t.Helper()
	all := 1
	for range length {
		all *= len(calls)
	}
	for number := range all {
		k, rest := start(), number
		for range length {
			k.call(calls[rest%len(calls)])
			rest /= len(calls)
		}
		behind := fmt.Sprintf("run %d of %d calls", number, length)
		k.alike(behind)
		k.release(behind)
	}
}

// tangle are calls for the first three numbers.
var tangle = []call{
	open(file.File{Kind: file.Node, ID: 1, Off: 5, Name: "a"}), open(file.File{Kind: file.Out, ID: 2, Write: true, Refs: 7}), open(file.File{Kind: 4}),
	ref(0), ref(1), ref(2), unref(0), unref(1), unref(2),
	move(0, 3), move(1, mostNumber), move(0, -1), move(2, 4),
}

// Every run of calls, in tables with room for few.
func TestEveryRun(t *testing.T) {
	for most := 1; most <= 3; most++ {
		t.Run(fmt.Sprint(most), func(t *testing.T) {
			t.Parallel()
			for length := range 5 {
				runs(t, func() *table { return made(t, most) }, tangle, length)
			}
		})
	}
}

// Every run of calls behind some that have taken files, once and often.
func TestEveryRunBehind(t *testing.T) {
	a, b := tangle[0], tangle[1]
	starts := [][]call{
		{a, b, a},
		{a, b, a, ref(0), ref(1), ref(1), ref(2)},
		{a, b, b, unref(1)},
		{a, b, b, ref(2), unref(0), unref(1)},
		{a, a, ref(0), unref(0), unref(0), ref(1)},
	}
	for n, start := range starts {
		for _, most := range []int{3, 32} {
			t.Run(fmt.Sprint(n, most), func(t *testing.T) {
				t.Parallel()
				behind := func() *table {
					k := made(t, most)
					for _, c := range start {
						k.call(c)
					}
					return k
				}
				runs(t, behind, tangle, 3)
			})
		}
	}
}

// Files that are given back in every order: each number is free from its last Unref on, and no other one.
func TestFI3EveryOrder(t *testing.T) {
	const many = 4
	var orders func(left []int, then func(l []int))
	orders = func(left []int, then func(l []int)) {
		if len(left) == 0 {
			then(nil)
			return
		}
		for i, n := range left {
			rest := append(append([]int{}, left[:i]...), left[i+1:]...)
			orders(rest, func(l []int) { then(append([]int{n}, l...)) })
		}
	}
	// 1 and 2 are taken twice, and so given back twice.
	orders([]int{0, 1, 2, 3, 1, 2}, func(l []int) {
		k := made(t, many)
		for n := range many {
			k.call(open(sample(n)))
		}
		k.call(ref(1))
		k.call(ref(2))
		toGive := []int{1, 2, 2, 1}
		for _, n := range l {
			toGive[n]--
			want := answer{f: taken(sample(n), toGive[n]), gone: toGive[n] == 0}
			if got := unref(n).do(t, k.x); !got.is(want) {
				t.Fatalf("Unref(%d) in the order %v: %v, want %v", n, l, got, want)
			}
			if toGive[n] == 0 {
				if got := unref(n).do(t, k.x); !got.is(bad(9)) {
					t.Fatalf("Unref(%d) once more in the order %v: %v", n, l, got)
				}
			}
		}
		if got := list().do(t, k.x); !got.is(listed()) {
			t.Fatalf("List behind the order %v: %v", l, got)
		}
	})
}

// A file is given back as often as it was opened and referred to again, and not more often, however both mix.
func TestFI3AsOften(t *testing.T) {
	// Each run is a row of bits: 1 refers to the file again, 0 gives it back.
	for length := range 13 {
		for bits := range 1 << length {
			k, f, refs := made(t, 2), sample(6), 1
			k.call(open(sample(5)))
			k.call(open(f))
			for step := range length {
				switch {
				case refs == 0:
					k.tells(ref(1), "the last Unref")
					k.tells(unref(1), "the last Unref")
				case bits>>step&1 > 0:
					refs++
					k.call(ref(1))
				default:
					refs--
					if got := k.call(unref(1)); got.gone != (refs == 0) || got.f.Refs != refs {
						t.Fatalf("run %b of %d: Unref: %v, want Refs %d", bits, length, got, refs)
					}
				}
			}
			for ; refs > 0; refs-- {
				if got := k.call(unref(1)); got.no != 0 {
					t.Fatalf("run %b of %d: Unref: %v, with Refs %d", bits, length, got, refs)
				}
			}
			if got := k.call(unref(1)); got.no != 9 {
				t.Fatalf("run %b of %d: Unref once more: %v", bits, length, got)
			}
			k.alike("the run")
		}
	}
}

// numbers are numbers below a limit, always the same ones.
func numbers(seed uint64) func(limit int) int {
	return func(limit int) int {
		seed ^= seed << 13
		seed ^= seed >> 7
		seed ^= seed << 17
		return int(seed >> 11 % uint64(limit))
	}
}

// throw are parts of calls, in no order.
type throw struct {
	below func(limit int) int
	most  int
}

// n is mostly the number of a file that there may be.
func (r throw) n() int {
	if r.below(15) == 0 {
		l := strangers(r.most)
		return l[r.below(len(l))]
	}
	return r.below(r.most)
}

// number is mostly one that an offset can be.
func (r throw) number() int {
	switch r.below(10) {
	case 0:
		return badNumbers[r.below(len(badNumbers))]
	case 1, 2:
		return goodNumbers[r.below(len(goodNumbers))]
	}
	return r.below(mostNumber + 1)
}

func (r throw) file() file.File {
	f := file.File{Kind: r.below(4), ID: r.below(100), Off: r.below(1000), Read: r.below(2) == 0, Write: r.below(2) == 0, Refs: r.below(4) - 1}
	f.Name = strings.Repeat("n", r.below(20))
	switch r.below(20) {
	case 0:
		f.Kind = badKinds[r.below(len(badKinds))]
	case 1:
		f.ID = r.number()
	case 2:
		f.Off = r.number()
	case 3:
		f.Name = lots(250 + r.below(12))
	}
	return f
}

func (r throw) call() call {
	switch r.below(10) {
	case 0, 1, 2:
		return open(r.file())
	case 3, 4:
		return ref(r.n())
	case 5, 6, 7:
		return unref(r.n())
	case 8:
		return move(r.n(), r.number())
	}
	return []call{get(r.n()), list()}[r.below(2)]
}

// count is how often files were taken and given back, and how often they are had still.
type count struct{ taken, given, had int }

func (c *count) add(k *table, of call, a answer) {
	if a.no == 0 {
		switch of.method {
		case "Open", "Ref":
			c.taken++
		case "Unref":
			c.given++
		}
	}
	c.had = 0
	for _, n := range list().do(k.T, k.x).l {
		c.had += get(n).do(k.T, k.x).f.Refs
	}
}

// Long runs of all calls, in small tables and in great ones: nothing is given back that was not taken, and nothing that was taken is lost.
func TestFI3LongRun(t *testing.T) {
	for _, most := range []int{1, 2, 3, 5, 9, 20, 31, 32} {
		t.Run(fmt.Sprint(most), func(t *testing.T) {
			t.Parallel()
			for seed := range 4 {
				r := throw{numbers(uint64(most*10+seed+1) * 88172645463325252), most}
				k := made(t, most)
				var all count
				for i := range 3000 {
					c := r.call()
					// For a while more goes than comes.
					if i%700 > 500 && r.below(2) == 0 {
						c = unref(r.below(most))
					}
					all.add(k, c, k.call(c))
					if all.had != all.taken-all.given {
						t.Fatalf("%v: files were taken %d times and given back %d times, and are had %d times", c, all.taken, all.given, all.had)
					}
					if i%(most+2) == 0 {
						k.alike(c.String())
					}
				}
				k.release("a long run")
			}
		})
	}
}

// Each number is a file of its own: what is done to one is not seen at any other.
func TestFI3Others(t *testing.T) {
	for _, most := range []int{2, 3, 31, 32} {
		for n := range most {
			k := filled(t, most)
			for _, c := range []call{ref(n), move(n, 12345), ref(n), unref(n), unref(n), unref(n), unref(n), ref(n), move(n, 1), open(sample(60)), move(n, math.MaxInt), ref(n)} {
				k.call(c)
				for other := range most {
					if got := get(other).do(t, k.x); other != n && !got.is(has(taken(sample(other), 1))) {
						t.Fatalf("file %d behind %v: %v", other, c, got)
					}
				}
			}
			k.release("calls for one file")
		}
	}
}
