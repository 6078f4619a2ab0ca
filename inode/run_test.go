package inode_test

import (
	"fmt"
	"math"
	"testing"
)

// runs does every run of so many calls with a tree that is made anew for each.
func runs(t *testing.T, start func() *tree, calls []call, length int) {
	t.Helper()
	all := 1
	for range length {
		all *= len(calls)
	}
	for number := range all {
		k, rest := start(), number
		for range length {
			k.call(calls[rest%len(calls)])
			rest /= len(calls)
		}
		behind := fmt.Sprintf("run %d of %d calls", number, length)
		k.alike(behind)
		k.release(behind)
	}
}

// tangle are calls for names, directories and what is held, over two names and the numbers up to 4.
var tangle = []call{
	mk(1, "a", file), mk(1, "a", folder), mk(1, "b", folder), mk(2, "a", folder), mk(2, "b", file), mk(3, "a", folder), mk(3, "b", file), mk(4, "a", file),
	unlink(1, "a"), unlink(1, "b"), unlink(2, "a"), unlink(2, "b"), unlink(3, "a"), unlink(3, "b"),
	hold(1), hold(2), hold(3), drop(1), drop(2), drop(3), drop(4), walk(2, "..", "a"), walk(3, "..", ".."),
}

// Every run of calls, in trees with room for few.
func TestEveryRun(t *testing.T) {
	for most := 1; most <= 4; most++ {
		t.Run(fmt.Sprint(most), func(t *testing.T) {
			t.Parallel()
			for length := range 4 {
				runs(t, func() *tree { return grown(t, most) }, tangle, length)
			}
		})
	}
}

// Every run of calls behind some that have made directories in each other, held and not.
func TestEveryRunBehind(t *testing.T) {
	starts := [][]call{
		{mk(1, "a", folder), mk(2, "a", folder)},
		{mk(1, "a", folder), mk(2, "a", folder), hold(3), hold(2)},
		{mk(1, "a", folder), mk(2, "a", folder), hold(3), unlink(2, "a")},
		{mk(1, "a", folder), mk(2, "a", folder), hold(3), hold(3), unlink(2, "a"), unlink(1, "a")},
		{mk(1, "a", folder), mk(2, "a", folder), hold(3), unlink(2, "a"), unlink(1, "a"), mk(1, "b", folder)},
		{mk(1, "a", folder), mk(2, "b", file), mk(1, "b", folder), hold(3)},
	}
	for n, start := range starts {
		for _, most := range []int{3, 4} {
			t.Run(fmt.Sprint(n, most), func(t *testing.T) {
				t.Parallel()
				behind := func() *tree {
					k := grown(t, most)
					for _, c := range start {
						k.call(c)
					}
					return k
				}
				runs(t, behind, tangle, 3)
			})
		}
	}
}

// Every run of calls with the bytes of two files.
func TestEveryRunOfBytes(t *testing.T) {
	calls := []call{
		write(2, 0, "a"), write(2, 0, "bcd"), write(2, 1, "ef"), write(2, 2, ""), write(2, 4, "g"), write(2, 4094, "hij"), write(2, 4096, "k"), write(3, 1, "l"),
		cut(2), cut(3), read(2, 0, 3), read(2, 1, 1), read(2, 2, 9), read(3, 0, 9), unlink(1, "a"), mk(1, "a", file), hold(2), drop(2),
	}
	t.Parallel()
	for length := range 4 {
		runs(t, func() *tree { return filed(t, "") }, calls, length)
	}
}

// numbers are numbers below a limit, always the same ones.
func numbers(seed uint64) func(limit int) int {
	return func(limit int) int {
		seed ^= seed << 13
		seed ^= seed >> 7
		seed ^= seed << 17
		return int(seed % uint64(limit))
	}
}

// throw are parts of calls, in no order.
type throw struct {
	below func(limit int) int
	most  int
}

// id is mostly the number of a node that there may be.
func (r throw) id() int {
	switch r.below(12) {
	case 0:
		return strangers[r.below(len(strangers))]
	case 1:
		return r.most + r.below(3)
	case 2, 3:
		return 1
	}
	return 1 + r.below(r.most)
}

// name is mostly one that there can be; there are more of them the greater the tree is.
func (r throw) name() string {
	switch r.below(12) {
	case 0:
		return []string{"", ".", "..", "A", "a/b", seventeen, "...", sixteen}[r.below(8)]
	case 1:
		return ".."
	}
	return "n" + fmt.Sprint(r.below(2+r.most/4))
}

func (r throw) names() []string {
	l := make([]string, r.below(6))
	for n := range l {
		l[n] = r.name()
	}
	return l
}

// off is mostly near the beginning of a file, or near the greatest end.
func (r throw) off() int {
	switch r.below(8) {
	case 0:
		return []int{-1, math.MinInt, math.MaxInt, 4096, 4097, 1 << 32}[r.below(6)]
	case 1:
		return 4096 - r.below(20)
	case 2:
		return r.below(4200)
	}
	return r.below(30)
}

func (r throw) call() call {
	switch r.below(16) {
	case 0, 1, 2:
		return mk(r.id(), r.name(), 1)
	case 3, 4:
		return mk(r.id(), r.name(), r.below(9)%3)
	case 5, 6:
		return unlink(r.id(), r.name())
	case 7:
		return hold(r.id())
	case 8:
		return drop(r.id())
	case 9:
		return find(r.id(), r.name())
	case 10:
		return walk(r.id(), r.names()...)
	case 11:
		return read(r.id(), r.off(), r.off())
	case 12, 13:
		return write(r.id(), r.off(), letter(r.below(200), r.below(25)*r.below(25)))
	case 14:
		return []call{cut(r.id()), size(r.id()), kind(r.id())}[r.below(3)]
	}
	return list(r.id())
}

// clear unlinks or drops something that there is.
func (r throw) clear(k *tree) call {
	if len(k.m.names) > 0 && r.below(2) == 0 {
		name := k.m.names[r.below(len(k.m.names))]
		return unlink(name.dir, name.name)
	}
	return drop(k.m.nodes[r.below(len(k.m.nodes))].id)
}

// Long runs of all calls, in small trees and in great ones.
func TestIN4LongRun(t *testing.T) {
	for _, most := range []int{1, 2, 3, 5, 9, 20, 40, 64} {
		t.Run(fmt.Sprint(most), func(t *testing.T) {
			t.Parallel()
			r := throw{numbers(uint64(most) * 88172645463325252), most}
			for range 4 {
				k := grown(t, most)
				for i := range 3000 {
					c := r.call()
					// Where it is full, for a while more goes than comes.
					if i%700 > 500 && r.below(2) == 0 {
						c = r.clear(k)
					}
					k.call(c)
					if i%(most+2) == 0 {
						k.alike(c.String())
						k.wantOneName(c.String())
					}
				}
				k.release("a long run")
			}
		})
	}
}
