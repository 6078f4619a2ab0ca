package cred_test

import (
	"math"
	"testing"

	"halter/cred"
)

// The chapter's own example, and how it goes on.
func TestExample(t *testing.T) {
	wantRows(t,
		row{may(0, 5), tells(true)},
		row{may(5, 0), tells(false)},
		row{become(0, 5), num(5)},
		row{become(5, 0), bad(1)},
		row{become(5, 5), num(5)},
	)
}

// Root is a number that the layers above write down.
func TestRoot(t *testing.T) {
	const root = cred.Root
	if root != 0 {
		t.Errorf("Root: %d, want 0", root)
	}
}

func TestCR1Check(t *testing.T) {
	wantRows(t,
		row{check(0), done},
		row{check(1), done},
		row{check(5), done},
		row{check(255), done},
		row{check(256), done},
		row{check(32767), done},
		row{check(32768), done},
		row{check(65534), done},
		row{check(65535), done},
		row{check(65536), bad(22)},
		row{check(65537), bad(22)},
		row{check(-1), bad(22)},
		row{check(-2), bad(22)},
		row{check(-65535), bad(22)},
		row{check(-65536), bad(22)},
		row{check(1 << 32), bad(22)},
		row{check(-1 << 32), bad(22)},
		row{check(math.MaxInt32), bad(22)},
		row{check(math.MinInt32), bad(22)},
		row{check(math.MaxInt), bad(22)},
		row{check(math.MinInt), bad(22)},
	)
}

// Every user, and as many numbers on either side of them.
func TestCR1CheckEveryUser(t *testing.T) {
	for uid := range 65536 {
		wantRight(t, check(uid), check(uid-65536), check(uid+65536))
		if err := cred.Check(uid); err != nil {
			t.Fatalf("Check(%d): %v", uid, err)
		}
	}
}

func TestCR1May(t *testing.T) {
	wantRows(t,
		// Users who ask for themselves.
		row{may(0, 0), tells(true)},
		row{may(1, 1), tells(true)},
		row{may(5, 5), tells(true)},
		row{may(65534, 65534), tells(true)},
		row{may(65535, 65535), tells(true)},
		// Root, who asks for others.
		row{may(0, 1), tells(true)},
		row{may(0, 65534), tells(true)},
		row{may(0, 65535), tells(true)},
		row{may(0, 65536), tells(false)},
		row{may(0, -1), tells(false)},
		row{may(0, math.MinInt), tells(false)},
		row{may(0, math.MaxInt), tells(false)},
		// Others, who ask for Root.
		row{may(1, 0), tells(false)},
		row{may(65535, 0), tells(false)},
		row{may(65536, 0), tells(false)},
		row{may(-1, 0), tells(false)},
		row{may(math.MinInt, 0), tells(false)},
		row{may(math.MaxInt, 0), tells(false)},
		// Others, who ask for each other.
		row{may(1, 2), tells(false)},
		row{may(2, 1), tells(false)},
		row{may(1, 65535), tells(false)},
		row{may(65535, 1), tells(false)},
		row{may(65534, 65535), tells(false)},
		row{may(256, 512), tells(false)},
		row{may(1, 257), tells(false)},
		row{may(1000, 1001), tells(false)},
		// Numbers that are no user, also of themselves.
		row{may(-1, -1), tells(false)},
		row{may(65536, 65536), tells(false)},
		row{may(math.MinInt, math.MinInt), tells(false)},
		row{may(math.MaxInt, math.MaxInt), tells(false)},
		row{may(-1, 1), tells(false)},
		row{may(1, -1), tells(false)},
		row{may(65536, 65535), tells(false)},
		row{may(65535, 65536), tells(false)},
		row{may(5, 65541), tells(false)},
		row{may(65541, 5), tells(false)},
		row{may(65536, 5), tells(false)},
		row{may(1<<32, 5), tells(false)},
		row{may(math.MinInt, math.MaxInt), tells(false)},
	)
}

func TestCR1Become(t *testing.T) {
	wantRows(t,
		// Root becomes anybody.
		row{become(0, 0), num(0)},
		row{become(0, 1), num(1)},
		row{become(0, 256), num(256)},
		row{become(0, 1000), num(1000)},
		row{become(0, 65534), num(65534)},
		row{become(0, 65535), num(65535)},
		row{become(0, 65536), bad(22)},
		row{become(0, -1), bad(22)},
		row{become(0, math.MinInt), bad(22)},
		row{become(0, math.MaxInt), bad(22)},
		// Others stay who they are.
		row{become(1, 1), num(1)},
		row{become(1000, 1000), num(1000)},
		row{become(65534, 65534), num(65534)},
		row{become(65535, 65535), num(65535)},
		// Others become nobody else.
		row{become(1, 0), bad(1)},
		row{become(65535, 0), bad(1)},
		row{become(1, 2), bad(1)},
		row{become(2, 1), bad(1)},
		row{become(1, 65535), bad(1)},
		row{become(65535, 1), bad(1)},
		row{become(65534, 65535), bad(1)},
		row{become(1, 257), bad(1)},
	)
}

// Every user, who asks for itself, for Root, for its neighbours and for the edges; Root, who asks for it.
func TestCR1EveryUser(t *testing.T) {
	for uid := range 65536 {
		for _, other := range []int{uid, 0, 1, uid - 1, uid + 1, uid ^ 1, uid ^ 0x100, uid ^ 0x8000, 65535, 65535 - uid, -uid, uid + 65536, uid - 65536, uid + 1<<32, -1, 65536, math.MinInt, math.MaxInt} {
			wantRight(t, both(uid, other)...)
			wantRight(t, both(other, uid)...)
		}
	}
}

// Each edge, as who and as whom, with each other one.
func TestCR1Edges(t *testing.T) {
	for _, who := range edges {
		for _, whom := range edges {
			wantRight(t, both(who, whom)...)
		}
	}
}

// The numbers that the chapter's edges are, each as who and as whom, written by hand.
func TestCR1EdgesByHand(t *testing.T) {
	const no, perm = 22, 1
	numbers := []int{math.MinInt, -1, 0, 1, 65535, 65536, math.MaxInt}
	errors := [][]int{
		{no, no, no, no, no, no, no},
		{no, no, no, no, no, no, no},
		{no, no, 0, 0, 0, no, no},
		{no, no, perm, 0, perm, no, no},
		{no, no, perm, perm, 0, no, no},
		{no, no, no, no, no, no, no},
		{no, no, no, no, no, no, no},
	}
	for i, who := range numbers {
		for j, whom := range numbers {
			want := num(whom)
			if errors[i][j] > 0 {
				want = bad(errors[i][j])
			}
			wantRows(t, row{become(who, whom), want}, row{may(who, whom), tells(errors[i][j] == 0)})
		}
	}
}

// Two users by a fixed rule: they are equal now and then.
func TestCR1Thrown(t *testing.T) {
	var who, whom int
	seed := uint64(22)
	for n := range 200000 {
		below := 65536
		if n%2 > 0 {
			below = 12
		}
		who, seed = throw(seed, below)
		whom, seed = throw(seed, below)
		wantRight(t, both(who, whom)...)
	}
}
