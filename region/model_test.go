package region_test

import (
	"math/rand"
	"slices"
	"testing"

	"halter/api"
	"halter/region"
)

const none = -1

// model is what the chapter says, page by page: the Perm of each page from one on, or none.
type model struct {
	first int
	perms []int
}

func empty(first, many int) *model {
	return &model{first, slices.Repeat([]int{none}, many)}
}

func (m *model) clone() *model { return &model{m.first, slices.Clone(m.perms)} }

// end is the page behind the last one of the model.
func (m *model) end() int { return m.first + len(m.perms) }

// some are the Perms of some of the pages.
func (m *model) some(from, to int) []int { return m.perms[from-m.first : to-m.first] }

// region is the greatest one around a page whose pages all have its Perm; false: the page is in none.
func (m *model) region(page int) (api.Region, bool) {
	perm := m.some(page, page+1)[0]
	if perm == none {
		return api.Region{}, false
	}
	from, to := page, page+1
	for from > m.first && m.some(from-1, from)[0] == perm {
		from--
	}
	for to < m.end() && m.some(to, to+1)[0] == perm {
		to++
	}
	return re(from, to, uint8(perm)), true
}

// list is the only valid one that has the pages of the model.
func (m *model) list() list {
	var l list
	for page := m.first; page < m.end(); {
		r, ok := m.region(page)
		if !ok {
			page++
			continue
		}
		l = append(l, r)
		page = r.To
	}
	return l
}

// size is how many pages there are.
func (m *model) size() int {
	many := 0
	for _, perm := range m.perms {
		if perm != none {
			many++
		}
	}
	return many
}

// lay gives some pages a Perm, or none.
func (m *model) lay(from, to, perm int) *model {
	laid := m.clone()
	for n := range laid.some(from, to) {
		laid.some(from, to)[n] = perm
	}
	return laid
}

// hole tries page by page.
func (m *model) hole(many, from, to int) int {
	for page := from; page+many <= to; page++ {
		if !slices.ContainsFunc(m.some(page, page+many), func(perm int) bool { return perm != none }) {
			return page
		}
	}
	return none
}

// holdAdd holds what comes of a region that is added, and is what there is then.
func (m *model) holdAdd(t *testing.T, from, to, perm int) *model {
	t.Helper()
	r := re(from, to, uint8(perm))
	switch {
	case from >= to:
		wantNoAdd(t, m.list(), r, api.ErrArg)
	case slices.ContainsFunc(m.some(from, to), func(perm int) bool { return perm != none }):
		wantNoAdd(t, m.list(), r, api.ErrExist)
	default:
		laid := m.lay(from, to, perm)
		wantAdd(t, m.list(), r, laid.list())
		return laid
	}
	return m
}

// holdCut holds what comes of pages that are cut, and is what there is then.
func (m *model) holdCut(t *testing.T, from, to int) *model {
	t.Helper()
	if from >= to {
		wantNoCut(t, m.list(), from, to, api.ErrArg)
		return m
	}
	laid := m.lay(from, to, none)
	wantCut(t, m.list(), from, to, laid.list())
	return laid
}

// holdProtect holds what comes of pages that get another Perm, and is what there is then.
func (m *model) holdProtect(t *testing.T, from, to, perm int) *model {
	t.Helper()
	switch {
	case from >= to:
		wantNoProtect(t, m.list(), from, to, uint8(perm), api.ErrArg)
	case slices.Contains(m.some(from, to), none):
		wantNoProtect(t, m.list(), from, to, uint8(perm), api.ErrMemory)
	default:
		laid := m.lay(from, to, perm)
		wantProtect(t, m.list(), from, to, uint8(perm), laid.list())
		return laid
	}
	return m
}

// holdHole holds where a hole is.
func (m *model) holdHole(t *testing.T, many, from, to int) {
	t.Helper()
	if from >= to {
		wantNoHole(t, m.list(), many, from, to, api.ErrArg)
		return
	}
	if page := m.hole(many, from, to); page != none {
		wantHole(t, m.list(), many, from, to, page)
		return
	}
	wantNoHole(t, m.list(), many, from, to, api.ErrMemory)
}

// holdAt holds the region of a page.
func (m *model) holdAt(t *testing.T, page int) {
	t.Helper()
	if r, ok := m.region(page); ok {
		wantAt(t, m.list(), page, r)
		return
	}
	wantAt(t, m.list(), page)
}

// all are all models of so many pages whose Perms are among a few.
func all(first, many int, perms []int) []*model {
	if many == 0 {
		return []*model{empty(first, 0)}
	}
	var l []*model
	for _, m := range all(first, many-1, perms) {
		for _, perm := range perms {
			l = append(l, &model{first, append(slices.Clone(m.perms), perm)})
		}
	}
	return l
}

// Every list of a few pages, at the beginning, at the end and between, and every call with it.
func TestEveryList(t *testing.T) {
	const many = 5
	for n, first := range []int{0, 1, 2000, api.Pages - many} {
		perms := [][]int{{none, 0, 7}, {none, 1, 5}, {none, 2, 6}, {none, 3, 4}}[n]
		for _, m := range all(first, many, perms) {
			if err := check(t, m.list()); err != nil {
				t.Fatalf("%s: error %v", told("Check", m.list()), err)
			}
			wantSize(t, m.list(), m.size())
			for from := first; from <= m.end(); from++ {
				for to := first; to <= m.end(); to++ {
					for _, perm := range perms[1:] {
						m.holdAdd(t, from, to, perm)
						m.holdProtect(t, from, to, perm)
					}
					m.holdCut(t, from, to)
					for asked := range many + 1 {
						m.holdHole(t, asked+1, from, to)
					}
				}
				if from < m.end() {
					m.holdAt(t, from)
				}
			}
		}
	}
}

// Each list of two regions and of three that are a few pages away from each other or not, valid or not: the model's own list is the only valid one that has these pages.
func TestRE1CheckEvery(t *testing.T) {
	var regions list
	for from := 10; from < 14; from++ {
		for to := from - 1; to <= 14; to++ {
			regions = append(regions, re(from, to, 1), re(from, to, 5))
		}
	}
	hold := func(l list) {
		m := empty(9, 7)
		possible := true
		for _, r := range l {
			possible = possible && r.From < r.To
			if possible {
				m = m.lay(r.From, r.To, int(r.Perm))
			}
		}
		if err := check(t, l); (err == nil) != (possible && slices.Equal(m.list(), l)) {
			t.Fatalf("%s: error %v", told("Check", l), err)
		}
	}
	for _, a := range regions {
		hold(list{a})
		for _, b := range regions {
			hold(list{a, b})
			for _, c := range regions {
				hold(list{a, b, c})
			}
		}
	}
}

// step does one of the calls that answer a list, over pages in no order, many of them at once or few.
func (m *model) step(t *testing.T, dice *rand.Rand, perms int) *model {
	t.Helper()
	from := m.first + dice.Intn(len(m.perms))
	to := from + 1 + dice.Intn(1+dice.Intn(m.end()-from))
	switch dice.Intn(5) {
	case 0:
		return m.holdCut(t, from, to)
	case 1, 2:
		return m.holdProtect(t, from, to, dice.Intn(perms))
	}
	return m.holdAdd(t, from, to, dice.Intn(perms))
}

// RE4: after each run of calls, each page has the Perm that it was given last.
func TestRE4LongRuns(t *testing.T) {
	for seed, c := range []struct{ first, many, perms, steps int }{
		{0, 12, 2, 20000}, {api.Pages - 12, 12, 3, 20000}, {700, 40, 8, 20000}, {0, 200, 8, 5000}, {0, api.Pages, 8, 2000}, {0, api.Pages, 2, 2000},
	} {
		dice := rand.New(rand.NewSource(int64(seed)))
		m := empty(c.first, c.many)
		for range c.steps {
			m = m.step(t, dice, c.perms)
			from := c.first + dice.Intn(c.many)
			m.holdAt(t, from)
			m.holdHole(t, 1+dice.Intn(1+dice.Intn(c.many)), from, from+1+dice.Intn(m.end()-from))
			wantSize(t, m.list(), m.size())
		}
	}
}

// RE4, with the program's own lists alone: what a call answered is given to the next one, and every page is asked for.
func TestRE4OwnLists(t *testing.T) {
	dice := rand.New(rand.NewSource(7))
	given := slices.Repeat([]int{none}, api.Pages)
	var l list
	for range 300 {
		from := dice.Intn(api.Pages)
		to := min(api.Pages, from+1+dice.Intn(500))
		perm := dice.Intn(8)
		next, err := region.Add(l, re(from, to, uint8(perm)))
		switch {
		case err != nil && dice.Intn(2) == 0:
			next, err = region.Protect(l, from, to, uint8(perm))
		case err != nil:
			perm = none
			next, err = region.Cut(l, from, to)
		}
		if err != nil {
			continue
		}
		l = next
		for page := from; page < to; page++ {
			given[page] = perm
		}
		for page, want := range given {
			r, ok := region.At(l, page)
			if ok != (want != none) || ok && int(r.Perm) != want || ok && (page < r.From || page >= r.To) {
				t.Fatalf("At(%d): %v, %v, want the Perm %d", page, r, ok, want)
			}
		}
	}
}

// What is done to some pages, and then to them again, and what is undone.
func TestRE4GivenLast(t *testing.T) {
	l := list{re(10, 20, 5)}
	for perm := range uint8(8) {
		next, err := region.Protect(l, 12, 15, perm)
		if err != nil {
			t.Fatal(err)
		}
		wantAt(t, next, 13, mustAt(t, next, 14))
		if got := mustAt(t, next, 13).Perm; got != perm {
			t.Errorf("page 13 has the Perm %d, want %d", got, perm)
		}
		wantProtect(t, next, 12, 15, 5, l)
		wantProtect(t, next, 10, 20, perm, list{re(10, 20, perm)})
		cut, err := region.Cut(next, 12, 15)
		if err != nil {
			t.Fatal(err)
		}
		wantAdd(t, cut, re(12, 15, perm), next)
		wantAdd(t, cut, re(12, 15, 5), l)
		wantNoProtect(t, cut, 12, 15, perm, api.ErrMemory)
	}
}

func mustAt(t *testing.T, l list, page int) api.Region {
	t.Helper()
	r, ok := region.At(l, page)
	if !ok {
		t.Fatalf("%s: none", told("At", l, page))
	}
	return r
}
