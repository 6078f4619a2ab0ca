package cred_test

import (
	"math"
	"testing"

	"halter/cred"
)

// A number that is no user, as who and as whom, beside each user at an edge and beside each other one.
func TestNoUser(t *testing.T) {
	for _, stranger := range strangers {
		wantRows(t, row{check(stranger), bad(22)})
		for _, other := range edges {
			wantRows(t,
				row{may(stranger, other), tells(false)}, row{become(stranger, other), bad(22)},
				row{may(other, stranger), tells(false)}, row{become(other, stranger), bad(22)},
			)
		}
		for _, other := range strangers {
			wantRows(t, row{may(stranger, other), tells(false)}, row{become(stranger, other), bad(22)})
		}
	}
}

// No permission: every user but Root, who wants to be another one at an edge.
func TestNoPermission(t *testing.T) {
	for who := 1; who < 65536; who++ {
		for _, to := range edges {
			if to == who {
				continue
			}
			if got := become(who, to).do(); got != bad(1) {
				t.Fatalf("%v: %v, want error 1", become(who, to), got)
			}
		}
	}
}

// Where two errors would do: a number that is no user comes ahead of no permission.
func TestFirstError(t *testing.T) {
	wantRows(t,
		// Neither Root nor equal, and who is no user.
		row{become(-1, 0), bad(22)},
		row{become(-1, 1), bad(22)},
		row{become(65536, 0), bad(22)},
		row{become(65536, 65535), bad(22)},
		row{become(math.MinInt, 5), bad(22)},
		row{become(math.MaxInt, 5), bad(22)},
		// Neither Root nor equal, and to is no user.
		row{become(1, -1), bad(22)},
		row{become(5, 65536), bad(22)},
		row{become(65535, 65536), bad(22)},
		row{become(5, math.MinInt), bad(22)},
		row{become(5, math.MaxInt), bad(22)},
		// Neither Root nor equal, and both are no users.
		row{become(-1, 65536), bad(22)},
		row{become(65536, -1), bad(22)},
		row{become(math.MinInt, math.MaxInt), bad(22)},
		row{become(math.MaxInt, math.MinInt), bad(22)},
		// Equal, so that there would be a permission, but no users.
		row{become(-1, -1), bad(22)},
		row{become(65536, 65536), bad(22)},
		row{become(math.MinInt, math.MinInt), bad(22)},
		row{become(math.MaxInt, math.MaxInt), bad(22)},
	)
}

// Beside an error there is no number: neither of the two that were given.
func TestNothingBesideAnError(t *testing.T) {
	for _, c := range []call{
		become(1, 2), become(5, 0), become(65535, 1), become(1, 65535), become(0, -1), become(0, 65536),
		become(-1, 0), become(65536, 7), become(7, 65536), become(-1, -1), become(65536, 65536), become(math.MinInt, math.MaxInt),
	} {
		if n, err := cred.Become(c.who, c.whom); n != 0 || number(err) <= 0 {
			t.Errorf("%v: %d, %v, want an error alone", c, n, err)
		}
	}
}

// The same calls have the same answers, whatever was called in between: who failed to become Root, and who became it.
func TestAgain(t *testing.T) {
	numbers := append([]int{-1, 65536, math.MinInt, math.MaxInt}, edges...)
	for range 3 {
		for _, who := range numbers {
			for _, whom := range numbers {
				wantRight(t, check(whom), may(who, whom), become(who, whom), may(whom, who), become(0, 0), may(who, whom), check(who))
			}
		}
	}
}
