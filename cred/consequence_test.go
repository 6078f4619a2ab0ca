package cred_test

import (
	"slices"
	"sync"
	"testing"

	"halter/cred"
)

// Who may access somebody may access whom that one may.
func TestCR2Transitive(t *testing.T) {
	numbers := append(slices.Clone(edges), -1, -5, 65536, 65537, 65541, -65536, 1<<32, 1<<32+5)
	chains := 0
	for _, a := range numbers {
		for _, b := range numbers {
			for _, c := range numbers {
				if !cred.May(a, b) || !cred.May(b, c) {
					continue
				}
				chains++
				if !cred.May(a, c) {
					t.Fatalf("May(%d, %d) and May(%d, %d), but not May(%d, %d)", a, b, b, c, a, c)
				}
			}
		}
	}
	// Root has a chain over Root to each user, and one over each other user to that one; each other user has one over itself to itself.
	if want := len(edges) + 2*(len(edges)-1); chains != want {
		t.Errorf("%d chains, want %d", chains, want)
	}
}

// Root may access everybody, nobody else may access Root, and everybody itself.
func TestCR2Root(t *testing.T) {
	for uid := range 65536 {
		if !cred.May(0, uid) || !cred.May(uid, uid) || cred.May(uid, 0) != (uid == 0) {
			t.Fatalf("user %d: %v by Root, %v by itself, and Root by it %v", uid, cred.May(0, uid), cred.May(uid, uid), cred.May(uid, 0))
		}
	}
}

// Who may access each user at an edge: Root and itself, of all numbers about the users.
func TestCR2NobodyElse(t *testing.T) {
	for _, whom := range edges {
		var l []int
		for who := -1000; who < 65536+1000; who++ {
			if cred.May(who, whom) {
				l = append(l, who)
			}
		}
		if want := slices.Compact([]int{0, whom}); !slices.Equal(l, want) {
			t.Errorf("%v may access %d, want %v", l, whom, want)
		}
	}
}

// Whom each user at an edge may access: Root everybody, others themselves, of all numbers about the users.
func TestCR2NobodyMore(t *testing.T) {
	for _, who := range edges {
		many, last := 0, -1
		for whom := -1000; whom < 65536+1000; whom++ {
			if cred.May(who, whom) {
				many, last = many+1, whom
			}
		}
		if who == 0 && (many != 65536 || last != 65535) || who > 0 && (many != 1 || last != who) {
			t.Errorf("%d may access %d, the last of them %d", who, many, last)
		}
	}
}

// One becomes just those whom one may access, and may then access no more than before.
func TestCR2BecomeAsMay(t *testing.T) {
	numbers := append(slices.Clone(edges), strangers...)
	for _, who := range numbers {
		for _, to := range numbers {
			n, err := cred.Become(who, to)
			if (err == nil) != cred.May(who, to) {
				t.Fatalf("Become(%d, %d): %d, %v, but May says %v", who, to, n, err, cred.May(who, to))
			}
			if err != nil {
				continue
			}
			for _, whom := range numbers {
				if cred.May(n, whom) && !cred.May(who, whom) {
					t.Fatalf("%d becomes %d, and may access %d then", who, n, whom)
				}
			}
		}
	}
}

// Who is Root no more does not become it again.
func TestCR2NoWayBack(t *testing.T) {
	for to := 1; to < 65536; to++ {
		n, err := cred.Become(0, to)
		if n != to || err != nil {
			t.Fatalf("Become(0, %d): %d, %v", to, n, err)
		}
		if back, err := cred.Become(n, 0); back != 0 || number(err) != 1 {
			t.Fatalf("Become(%d, 0): %d, %v, want error 1", n, back, err)
		}
	}
}

// Calls that are made at the same time know nothing of each other.
func TestAtTheSameTime(t *testing.T) {
	var all sync.WaitGroup
	for range 4 {
		all.Go(func() {
			for _, who := range edges {
				for _, whom := range append(slices.Clone(edges), -1, 65536) {
					for _, c := range append(both(who, whom), check(whom)) {
						if got := c.do(); got != c.slow() {
							t.Errorf("%v: %v, want %v", c, got, c.slow())
							return
						}
					}
				}
			}
		})
	}
	all.Wait()
}
