package space_test

import (
	"fmt"
	"maps"
	"math/bits"
	"slices"
	"testing"

	"pigeonry/api"
	"pigeonry/space"
)

// set is a set of pages.
type set map[int64]struct{}

func setOf(pages ...int64) set {
	s := set{}
	for _, page := range pages {
		s[page] = struct{}{}
	}
	return s
}

func (s set) has(page int64) bool {
	_, is := s[page]
	return is
}

// move moves a page from one set to another one.
func move(page int64, from, to set) {
	delete(from, page)
	to[page] = struct{}{}
}

// sets are all pages from 2 to High - 1, in sets of which no two have one in common.
type sets struct {
	high                    int64
	kept, fresh, held, free set
}

func (s sets) copy() sets {
	return sets{s.high, maps.Clone(s.kept), maps.Clone(s.fresh), maps.Clone(s.held), maps.Clone(s.free)}
}

func (s sets) same(o sets) bool {
	return s.high == o.high && maps.Equal(s.kept, o.kept) && maps.Equal(s.fresh, o.fresh) && maps.Equal(s.held, o.held) && maps.Equal(s.free, o.free)
}

// told is a space as the chapter tells it, word for word.
type told struct {
	most int64
	sets
	last sets
}

// newTold tells a space of what may be.
func newTold(most, high int64, free ...int64) *told {
	s := sets{high, setOf(), setOf(), setOf(), setOf(free...)}
	for page := int64(2); page < high; page++ {
		if !s.free.has(page) {
			s.kept[page] = struct{}{}
		}
	}
	return &told{most, s, s.copy()}
}

func (s *told) take() (int64, api.Errno) {
	if len(s.free) > 0 {
		page := slices.Min(slices.Collect(maps.Keys(s.free)))
		move(page, s.free, s.fresh)
		return page, api.OK
	}
	if s.high == s.most {
		return 0, api.ErrRoom
	}
	s.fresh[s.high] = struct{}{}
	s.high++
	return s.high - 1, api.OK
}

func (s *told) give(page int64) api.Errno {
	switch {
	case s.fresh.has(page):
		move(page, s.fresh, s.free)
	case s.kept.has(page):
		move(page, s.kept, s.held)
	default:
		return api.ErrKept
	}
	return api.OK
}

func (s *told) lasts() {
	maps.Copy(s.kept, s.fresh)
	maps.Copy(s.free, s.held)
	clear(s.fresh)
	clear(s.held)
	s.last = s.sets.copy()
}

func (s *told) undo() { s.sets = s.last.copy() }

func (s *told) will() set {
	all := maps.Clone(s.free)
	maps.Copy(all, s.held)
	return all
}

func (s *told) is(page int64) api.Place {
	switch {
	case s.kept.has(page):
		return api.PlaceKept
	case s.fresh.has(page):
		return api.PlaceNew
	case s.held.has(page):
		return api.PlaceHeld
	case s.free.has(page):
		return api.PlaceFree
	}
	return api.PlaceNone
}

func (s *told) copy() *told { return &told{s.most, s.sets.copy(), s.last.copy()} }

func (s *told) same(o *told) bool {
	return s.most == o.most && s.sets.same(o.sets) && s.last.same(o.last)
}

// mayTold tells whether a space may be made of that.
func mayTold(most, high int64, free []int64) bool {
	may := most >= 2 && most <= 4096 && high >= 2 && high <= most
	for i, page := range free {
		may = may && page >= 2 && page <= high-1 && (i == 0 || page > free[i-1])
	}
	return may
}

// wantAll asks all that can be asked of a space.
func wantAll(t *testing.T, what string, s *space.Space, want *told) {
	t.Helper()
	if s.High() != want.high {
		t.Fatalf("%s: High: %d, want %d", what, s.High(), want.high)
	}
	for _, list := range []struct {
		name string
		got  []int64
		want set
	}{
		{"Free", s.Free(), want.free},
		{"New", s.New(), want.fresh},
		{"Held", s.Held(), want.held},
		{"Will", s.Will(), want.will()},
	} {
		if rising := slices.Sorted(maps.Keys(list.want)); !slices.Equal(list.got, rising) {
			t.Fatalf("%s: %s: %v, want %v", what, list.name, list.got, rising)
		}
	}
	for page := int64(-2); page < want.high+3; page++ {
		if got := s.Is(page); got != want.is(page) {
			t.Fatalf("%s: Is(%d): %v, want %v", what, page, got, want.is(page))
		}
	}
}

// call is one that changes a space.
type call struct {
	name string
	do   func(*space.Space) (int64, api.Errno)
	tell func(*told) (int64, api.Errno)
}

func take() call {
	return call{"Take", (*space.Space).Take, (*told).take}
}

func give(page int64) call {
	return call{
		fmt.Sprintf("Give(%d)", page),
		func(s *space.Space) (int64, api.Errno) { return 0, s.Give(page) },
		func(s *told) (int64, api.Errno) { return 0, s.give(page) },
	}
}

func lasts() call {
	return call{
		"Lasts",
		func(s *space.Space) (int64, api.Errno) { return 0, s.Lasts() },
		func(s *told) (int64, api.Errno) { s.lasts(); return 0, api.OK },
	}
}

func undo() call {
	return call{
		"Undo",
		func(s *space.Space) (int64, api.Errno) { return 0, s.Undo() },
		func(s *told) (int64, api.Errno) { s.undo(); return 0, api.OK },
	}
}

// wantCall does a call to both.
func wantCall(t *testing.T, what string, c call, s *space.Space, want *told) {
	t.Helper()
	page, e := c.do(s)
	if n, err := c.tell(want); page != n || e != err {
		t.Fatalf("%s: %s: %d %v, want %d %v", what, c.name, page, e, n, err)
	}
}

// P7.1, P7.2: of some spaces of a Cap of 5 whatever is called, up to six calls long.
func TestAllOfShortLives(t *testing.T) {
	calls := []call{take(), give(2), give(3), give(4), lasts(), undo()}
	for _, free := range [][]int64{{}, {2}, {3}, {2, 3}} {
		for long, lives := 0, 1; long <= 6; long, lives = long+1, lives*len(calls) {
			for life := range lives {
				s, want := fresh(t, 5, 4, free...), newTold(5, 4, free...)
				what := fmt.Sprint(free)
				for range long {
					c := calls[life%len(calls)]
					life /= len(calls)
					wantCall(t, what, c, s, want)
					what += " " + c.name
				}
				wantAll(t, what, s, want)
			}
		}
	}
}

// dice tells numbers that are the same each time.
type dice uint32

func (d *dice) roll(n int) int {
	*d = *d*1664525 + 1013904223
	return int(uint64(bits.RotateLeft32(uint32(*d), 16)) % uint64(n))
}

// some tells pages from 2 to High - 1, rising, each of which is there as often as not.
func (d *dice) some(high int64) []int64 {
	var pages []int64
	for page := int64(2); page < high; page++ {
		if d.roll(2) == 0 {
			pages = append(pages, page)
		}
	}
	return pages
}

func (d *dice) call(s *told) call {
	switch d.roll(12) {
	case 0:
		return lasts()
	case 1:
		return undo()
	case 2, 3, 4, 5, 6:
		return take()
	}
	return give(int64(d.roll(int(s.high)+3)) - 1)
}

// P7.1, P7.2: lives of many calls, beside a plain reckoning of sets; copies go on apart.
func TestAllOfLongLives(t *testing.T) {
	for seed := range 60 {
		d := dice(seed)
		most := int64(2 + d.roll(1+d.roll(60)))
		high := 2 + int64(d.roll(int(most-1)))
		free := d.some(high)
		all := []*space.Space{fresh(t, most, high, free...)}
		want := []*told{newTold(most, high, free...)}
		for step := range 300 {
			what := fmt.Sprintf("seed %d, step %d", seed, step)
			i := d.roll(len(all))
			wantCall(t, what, d.call(want[i]), all[i], want[i])
			if d.roll(20) == 0 {
				to := d.roll(4)
				if to >= len(all) {
					all, want = append(all, nil), append(want, nil)
					to = len(all) - 1
				}
				all[to], want[to] = all[i].Copy(), want[i].copy()
			}
			for j := range all {
				wantAll(t, what, all[j], want[j])
				if got := space.Same(all[i], all[j]); got != want[i].same(want[j]) {
					t.Fatalf("%s: Same: %v, want %v", what, got, !got)
				}
			}
		}
	}
}

// P7.3: each page is just one of four, High falls but by Undo alone, and none that was kept when it lasted last is taken.
func TestWhatFollows(t *testing.T) {
	for seed := range 40 {
		d := dice(seed)
		high := int64(2 + d.roll(20))
		free := d.some(high)
		s := fresh(t, 40, high, free...)
		reckoning := newTold(40, high, free...)
		kept := map[int64]bool{}
		keep := func() {
			clear(kept)
			for page := int64(2); page < s.High(); page++ {
				kept[page] = s.Is(page) == api.PlaceKept
			}
		}
		keep()
		for step := range 400 {
			what := fmt.Sprintf("seed %d, step %d", seed, step)
			was, c := s.High(), d.call(reckoning)
			page, e := c.do(s)
			c.tell(reckoning)
			if c.name == "Take" && e == api.OK && kept[page] {
				t.Errorf("%s: Take: %d was kept", what, page)
			}
			if c.name != "Undo" && s.High() < was {
				t.Errorf("%s: %s: High fell from %d to %d", what, c.name, was, s.High())
			}
			if c.name == "Lasts" {
				keep()
			}
			wantEachOnce(t, what, s)
		}
	}
}

// wantEachOnce asks whether each page from 2 to High - 1, and no other one, is just one of four.
func wantEachOnce(t *testing.T, what string, s *space.Space) {
	t.Helper()
	in := map[int64]int{}
	for _, list := range [][]int64{s.Free(), s.New(), s.Held()} {
		for _, page := range list {
			in[page]++
		}
	}
	for page := int64(-3); page < s.High()+3; page++ {
		is, there := s.Is(page), page >= 2 && page < s.High()
		switch {
		case there != (is >= api.PlaceKept && is <= api.PlaceFree):
			t.Errorf("%s: Is(%d): %v", what, page, is)
		case in[page] > 1 || (in[page] == 0) != (is == api.PlaceKept || is == api.PlaceNone):
			t.Errorf("%s: %d is %v and stands in %d lists", what, page, is, in[page])
		}
	}
}

// P7.1: New, of lists some of which may not be.
func TestAllOfNew(t *testing.T) {
	made := map[bool]int{}
	for seed := range 5000 {
		d := dice(seed)
		most := int64(d.roll(12))
		high := 2 + int64(d.roll(int(most)+1))
		free := d.some(high)
		for range d.roll(3) {
			free = slices.Insert(free, d.roll(len(free)+1), int64(d.roll(12)))
			if d.roll(2) == 0 {
				slices.Sort(free)
			}
		}
		may := mayTold(most, high, free)
		made[may]++
		s, e := space.New(most, high, free...)
		if !may {
			if s != nil || e != api.ErrArg {
				t.Errorf("New(%d, %d, %v): %v %v", most, high, free, s, e)
			}
			continue
		}
		if e != api.OK {
			t.Fatalf("New(%d, %d, %v): %v", most, high, free, e)
		}
		wantAll(t, fmt.Sprintf("New(%d, %d, %v)", most, high, free), s, newTold(most, high, free...))
	}
	if min(made[true], made[false]) < 1000 {
		t.Errorf("too few of a kind were looked at: %v", made)
	}
}
