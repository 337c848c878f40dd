package space_test

import (
	"fmt"
	"math"
	"slices"
	"testing"

	"pigeonry/api"
	"pigeonry/space"
)

func fresh(t *testing.T, most, high int64, free ...int64) *space.Space {
	t.Helper()
	s, e := space.New(most, high, free...)
	if e != api.OK || s == nil {
		t.Fatalf("New(%d, %d, %v): %v %v", most, high, free, s, e)
	}
	return s
}

func wantErr(t *testing.T, what string, got, want api.Errno) {
	t.Helper()
	if got != want {
		t.Errorf("%s: %v, want %v", what, got, want)
	}
}

func wantTake(t *testing.T, s *space.Space, want int64) {
	t.Helper()
	if page, e := s.Take(); page != want || e != api.OK {
		t.Errorf("Take: %d %v, want %d", page, e, want)
	}
}

func wantNoRoom(t *testing.T, s *space.Space) {
	t.Helper()
	if page, e := s.Take(); page != 0 || e != api.ErrRoom {
		t.Errorf("Take: %d %v, want 0 %v", page, e, api.ErrRoom)
	}
}

func wantGive(t *testing.T, s *space.Space, page int64, want api.Errno) {
	t.Helper()
	wantErr(t, fmt.Sprintf("Give(%d)", page), s.Give(page), want)
}

func wantLasts(t *testing.T, s *space.Space) {
	t.Helper()
	wantErr(t, "Lasts", s.Lasts(), api.OK)
}

func wantUndo(t *testing.T, s *space.Space) {
	t.Helper()
	wantErr(t, "Undo", s.Undo(), api.OK)
}

func wantHigh(t *testing.T, s *space.Space, want int64) {
	t.Helper()
	if got := s.High(); got != want {
		t.Errorf("High: %d, want %d", got, want)
	}
}

func wantPages(t *testing.T, what string, got []int64, want ...int64) {
	t.Helper()
	if !slices.Equal(got, want) {
		t.Errorf("%s: %v, want %v", what, got, want)
	}
}

// wantIs asks what the pages from 2 on are, a letter each: k, n, h, f; and that none is behind them.
func wantIs(t *testing.T, s *space.Space, want string) {
	t.Helper()
	places := map[byte]api.Place{'k': api.PlaceKept, 'n': api.PlaceNew, 'h': api.PlaceHeld, 'f': api.PlaceFree}
	for i := range len(want) {
		if page := int64(2 + i); s.Is(page) != places[want[i]] {
			t.Errorf("Is(%d): %v, want %c of %s", page, s.Is(page), want[i], want)
		}
	}
	wantHigh(t, s, int64(2+len(want)))
	for _, page := range []int64{math.MinInt64, -2, -1, 0, 1, s.High(), s.High() + 1, api.MaxPages, math.MaxInt64} {
		if got := s.Is(page); got != api.PlaceNone {
			t.Errorf("Is(%d): %v", page, got)
		}
	}
}

// wantSame asks both ways round.
func wantSame(t *testing.T, what string, a, b *space.Space, want bool) {
	t.Helper()
	if space.Same(a, b) != want || space.Same(b, a) != want {
		t.Errorf("%s: Same %v, the other way round %v; want %v", what, space.Same(a, b), space.Same(b, a), want)
	}
}

// mixed tells a space of which 2 and 6 are kept, 3 and 7 new, 4 held and 5 free; 7 was not there when it lasted last.
func mixed(t *testing.T) *space.Space {
	t.Helper()
	s := fresh(t, 10, 7, 3, 5)
	wantTake(t, s, 3)
	wantTake(t, s, 5)
	wantTake(t, s, 7)
	wantGive(t, s, 4, api.OK)
	wantGive(t, s, 5, api.OK)
	wantIs(t, s, "knhfkn")
	return s
}

// P7.1: New

func TestNewOfEachCapAndHigh(t *testing.T) {
	for _, most := range []int64{math.MinInt64, -1, 0, 1, 2, 3, 100, api.MaxPages - 1, api.MaxPages, api.MaxPages + 1, math.MaxInt64} {
		for _, high := range []int64{math.MinInt64, -1, 0, 1, 2, 3, most - 1, most, most + 1, math.MaxInt64} {
			may := most >= 2 && most <= 4096 && high >= 2 && high <= most
			s, e := space.New(most, high)
			if may != (e == api.OK) || may != (s != nil) || !may && e != api.ErrArg {
				t.Errorf("New(%d, %d): %v %v", most, high, s, e)
			}
			if may {
				wantHigh(t, s, high)
				wantPages(t, "Will", s.Will())
			}
		}
	}
}

func TestNewOfLists(t *testing.T) {
	for _, free := range [][]int64{nil, {}, {2}, {6}, {2, 6}, {2, 3, 4, 5, 6}, {3, 5}} {
		s := fresh(t, 9, 7, free...)
		wantPages(t, "Free", s.Free(), free...)
		wantPages(t, "Will", s.Will(), free...)
		wantPages(t, "New", s.New())
		wantPages(t, "Held", s.Held())
		for page := int64(2); page < 7; page++ {
			want := api.PlaceKept
			if slices.Contains(free, page) {
				want = api.PlaceFree
			}
			if got := s.Is(page); got != want {
				t.Errorf("New of %v: Is(%d): %v, want %v", free, page, got, want)
			}
		}
	}
}

func TestNewOfListsThatMayNotBe(t *testing.T) {
	for _, free := range [][]int64{
		{1}, {0}, {-1}, {7}, {8}, {9}, {1, 2}, {2, 7}, {math.MinInt64}, {math.MaxInt64},
		{2, 2}, {6, 6}, {3, 3, 4}, {2, 3, 3}, {2, 4, 3}, {6, 2}, {2, 3, 2}, {3, 4, 2}, {2, 0, 3},
		{2 + 1<<32}, {3, 2 - 1<<32},
	} {
		if s, e := space.New(9, 7, free...); s != nil || e != api.ErrArg {
			t.Errorf("New of %v: %v %v", free, s, e)
		}
	}
	if s, e := space.New(9, 2, 2); s != nil || e != api.ErrArg {
		t.Errorf("New of no room for one: %v %v", s, e)
	}
	if s, e := space.New(1, 7, 2, 2); s != nil || e != api.ErrArg {
		t.Errorf("New of all that may not be: %v %v", s, e)
	}
}

func TestNewAtTheLimit(t *testing.T) {
	var free []int64
	for page := int64(2); page < api.MaxPages; page++ {
		free = append(free, page)
	}
	s := fresh(t, api.MaxPages, api.MaxPages, free...)
	for _, page := range free {
		wantTake(t, s, page)
	}
	wantNoRoom(t, s)
	wantPages(t, "New", s.New(), free...)
}

func TestNewKeepsNothingOfTheList(t *testing.T) {
	room := []int64{3, 5, 6, 77}
	free := room[:3:4]
	s := fresh(t, 9, 8, free...)
	free[0], free[1] = 2, 4
	wantPages(t, "Free", s.Free(), 3, 5, 6)
	wantTake(t, s, 3)
	wantLasts(t, s)
	wantUndo(t, s)
	if !slices.Equal(room, []int64{2, 4, 6, 77}) {
		t.Errorf("what was handed in: %v", room)
	}
}

// P7.1: Take

func TestTakeTheLeastFree(t *testing.T) {
	s := fresh(t, 12, 10, 3, 7, 8)
	wantTake(t, s, 3)
	wantIs(t, s, "knkkkffk")
	wantTake(t, s, 7)
	wantGive(t, s, 3, api.OK)
	wantTake(t, s, 3)
	wantTake(t, s, 8)
	wantIs(t, s, "knkkknnk")
}

func TestTakeHigh(t *testing.T) {
	s := fresh(t, 6, 4, 3)
	wantTake(t, s, 3)
	wantHigh(t, s, 4)
	wantTake(t, s, 4)
	wantHigh(t, s, 5)
	wantTake(t, s, 5)
	wantIs(t, s, "knnn")
	wantNoRoom(t, s)
	wantNoRoom(t, s)
	wantIs(t, s, "knnn")
}

func TestTakeOfNoRoom(t *testing.T) {
	for _, most := range []int64{2, 3, api.MaxPages} {
		s := fresh(t, most, most)
		wantNoRoom(t, s)
		wantHigh(t, s, most)
		wantPages(t, "New", s.New())
	}
	s := fresh(t, 3, 2)
	wantTake(t, s, 2)
	wantNoRoom(t, s)
}

func TestTakeBehindNoRoom(t *testing.T) {
	s := fresh(t, 4, 4)
	wantGive(t, s, 3, api.OK)
	wantNoRoom(t, s) // it is held
	wantIs(t, s, "kh")
	wantLasts(t, s)
	wantTake(t, s, 3)
	wantNoRoom(t, s)
	wantGive(t, s, 3, api.OK)
	wantTake(t, s, 3)
}

// P7.1: Give

func TestGiveOfEach(t *testing.T) {
	s := mixed(t)
	for _, page := range []int64{math.MinInt64, -1, 0, 1, 4, 5, 8, 9, 10, api.MaxPages, math.MaxInt64, 3 + 1<<32} {
		wantGive(t, s, page, api.ErrKept)
	}
	wantIs(t, s, "knhfkn")
	wantGive(t, s, 2, api.OK)
	wantGive(t, s, 3, api.OK)
	wantGive(t, s, 6, api.OK)
	wantGive(t, s, 7, api.OK) // High - 1, which does not fall
	wantIs(t, s, "hfhfhf")
	for page := int64(2); page < 9; page++ {
		wantGive(t, s, page, api.ErrKept)
	}
	wantIs(t, s, "hfhfhf")
	wantTake(t, s, 3)
	wantTake(t, s, 5)
	wantTake(t, s, 7)
	wantTake(t, s, 8)
}

func TestGiveOfNoPage(t *testing.T) {
	s := fresh(t, 9, 2)
	for page := int64(-1); page < 11; page++ {
		wantGive(t, s, page, api.ErrKept)
	}
	wantIs(t, s, "")
}

// P7.1: Lasts, Undo

func TestLasts(t *testing.T) {
	s := mixed(t)
	for range 2 {
		wantLasts(t, s)
		wantIs(t, s, "kkffkk")
	}
	wantUndo(t, s)
	wantIs(t, s, "kkffkk")
	wantGive(t, s, 3, api.OK) // it was new once, and is kept now
	wantTake(t, s, 4)
	wantIs(t, s, "khnfkk")
}

func TestUndo(t *testing.T) {
	s := mixed(t)
	for range 2 {
		wantUndo(t, s)
		wantIs(t, s, "kfkfk")
	}
	wantTake(t, s, 3)
	wantTake(t, s, 5)
	wantTake(t, s, 7)
	wantIs(t, s, "knknkn")
}

func TestUndoOfAFreshOne(t *testing.T) {
	s := fresh(t, 9, 5, 3)
	wantUndo(t, s)
	wantIs(t, s, "kfk")
	wantLasts(t, s)
	wantIs(t, s, "kfk")
}

func TestHighBehindUndo(t *testing.T) {
	s := fresh(t, 9, 2)
	for page := int64(2); page < 6; page++ {
		wantTake(t, s, page)
	}
	wantGive(t, s, 3, api.OK)
	wantIs(t, s, "nfnn")
	wantUndo(t, s)
	wantIs(t, s, "")
	wantTake(t, s, 2)
	wantLasts(t, s)
	wantTake(t, s, 3)
	wantTake(t, s, 4)
	wantUndo(t, s)
	wantIs(t, s, "k")
	wantTake(t, s, 3)
}

func TestWhatWasGivenFromHighLasts(t *testing.T) {
	s := fresh(t, 9, 3)
	wantTake(t, s, 3)
	wantTake(t, s, 4)
	wantGive(t, s, 4, api.OK)
	wantLasts(t, s)
	wantIs(t, s, "kkf")
	wantTake(t, s, 4)
	wantUndo(t, s)
	wantIs(t, s, "kkf")
}

func TestLastsAndUndoInTurn(t *testing.T) {
	s := fresh(t, 9, 4)
	wantTake(t, s, 4)
	wantGive(t, s, 2, api.OK)
	wantUndo(t, s)
	wantLasts(t, s)
	wantIs(t, s, "kk")
	wantGive(t, s, 2, api.OK)
	wantLasts(t, s)
	wantUndo(t, s)
	wantIs(t, s, "fk")
	wantTake(t, s, 2)
	wantUndo(t, s)
	wantIs(t, s, "fk")
	wantTake(t, s, 2)
	wantLasts(t, s)
	wantGive(t, s, 2, api.OK)
	wantUndo(t, s)
	wantIs(t, s, "kk")
}

// P7.2: High, Free, New, Held, Will, Is

func TestLists(t *testing.T) {
	s := fresh(t, 20, 12, 3, 4, 8, 10)
	for _, page := range []int64{3, 4, 8, 10, 12, 13} {
		wantTake(t, s, page)
	}
	for _, page := range []int64{11, 12, 2, 8, 7, 4} {
		wantGive(t, s, page, api.OK)
	}
	wantPages(t, "Free", s.Free(), 4, 8, 12)
	wantPages(t, "New", s.New(), 3, 10, 13)
	wantPages(t, "Held", s.Held(), 2, 7, 11)
	wantPages(t, "Will", s.Will(), 2, 4, 7, 8, 11, 12)
	wantIs(t, s, "hnfkkhfknhfn")
	wantLasts(t, s)
	wantPages(t, "Free", s.Free(), 2, 4, 7, 8, 11, 12)
	wantPages(t, "New", s.New())
	wantPages(t, "Held", s.Held())
	wantPages(t, "Will", s.Will(), 2, 4, 7, 8, 11, 12)
}

func TestListsOfNothing(t *testing.T) {
	s := fresh(t, 9, 2)
	for _, list := range [][]int64{s.Free(), s.New(), s.Held(), s.Will()} {
		wantPages(t, "a list", list)
	}
}

func TestListsAreNewMemory(t *testing.T) {
	s := mixed(t)
	other := mixed(t)
	for _, list := range []func() []int64{s.Free, s.New, s.Held, s.Will} {
		one, two := list(), list()
		for i := range one {
			one[i] = 99
		}
		one = append(one, 98)
		if slices.Contains(two, 99) || slices.Contains(list(), 99) {
			t.Errorf("a list shares memory: %v %v", two, list())
		}
	}
	wantIs(t, s, "knhfkn")
	wantSame(t, "behind what was done to lists", s, other, true)
}

// P7.2: Copy

func TestCopyGoesOnApart(t *testing.T) {
	for _, first := range []bool{true, false} {
		s := mixed(t)
		c := s.Copy()
		wantSame(t, "a copy", s, c, true)
		wantIs(t, c, "knhfkn")
		goes, stays := s, c
		if first {
			goes, stays = c, s
		}
		wantTake(t, goes, 5)
		wantGive(t, goes, 2, api.OK)
		wantGive(t, goes, 3, api.OK)
		wantIs(t, stays, "knhfkn")
		wantLasts(t, goes)
		wantIs(t, goes, "fffkkk")
		wantIs(t, stays, "knhfkn")
		wantUndo(t, stays)
		wantIs(t, stays, "kfkfk")
		wantIs(t, goes, "fffkkk")
		wantUndo(t, goes)
		wantIs(t, goes, "fffkkk")
	}
}

func TestCopyBehindUndo(t *testing.T) {
	s := mixed(t)
	wantUndo(t, s)
	c := s.Copy()
	wantTake(t, s, 3)
	wantGive(t, s, 2, api.OK)
	wantIs(t, c, "kfkfk")
	wantUndo(t, c)
	wantIs(t, c, "kfkfk")
	wantGive(t, c, 4, api.OK)
	wantIs(t, s, "hnkfk")
	wantUndo(t, c)
	wantIs(t, s, "hnkfk")
	wantUndo(t, s)
	wantSame(t, "both undone", s, c, true)
}

func TestCopyOfWhatItWas(t *testing.T) {
	s := mixed(t)
	c := s.Copy()
	wantUndo(t, c)
	wantTake(t, c, 3)
	wantLasts(t, c)
	wantUndo(t, s)
	wantIs(t, s, "kfkfk")
	wantIs(t, c, "kkkfk")
}

// P7.2: Same

func TestSameOfTheSame(t *testing.T) {
	wantSame(t, "fresh ones", fresh(t, 9, 5, 3), fresh(t, 9, 5, 3), true)
	wantSame(t, "mixed ones", mixed(t), mixed(t), true)
	s := mixed(t)
	wantSame(t, "one with itself", s, s, true)
	wantUndo(t, s)
	wantSame(t, "one that is as it was made", s, fresh(t, 10, 7, 3, 5), true)
	wantLasts(t, s)
	wantSame(t, "one of which nothing changed as it lasted", s, fresh(t, 10, 7, 3, 5), true)
}

func TestSameByAnotherWay(t *testing.T) {
	a, b := fresh(t, 9, 4), fresh(t, 9, 4)
	wantTake(t, a, 4)
	wantTake(t, a, 5)
	wantGive(t, a, 2, api.OK)
	wantGive(t, b, 2, api.OK)
	wantTake(t, b, 4)
	wantGive(t, b, 4, api.OK)
	wantTake(t, b, 4)
	wantTake(t, b, 5)
	wantSame(t, "the same pages, taken in another order", a, b, true)
}

func TestSameOfWhatDiffers(t *testing.T) {
	s := fresh(t, 9, 5, 3)
	wantSame(t, "another Cap", s, fresh(t, 8, 5, 3), false)
	wantSame(t, "another High", s, fresh(t, 9, 6, 3), false)
	wantSame(t, "another free page", s, fresh(t, 9, 5, 2), false)
	wantSame(t, "a free page more", s, fresh(t, 9, 5, 3, 4), false)
	wantSame(t, "no free page", s, fresh(t, 9, 5), false)
	held := s.Copy()
	wantGive(t, held, 2, api.OK)
	wantSame(t, "a held page", s, held, false)
	taken := s.Copy()
	wantTake(t, taken, 3)
	wantSame(t, "a new page", s, taken, false)
}

func TestSameOfWhatItWas(t *testing.T) {
	a, b := fresh(t, 9, 4, 2, 3), fresh(t, 9, 3, 2) // of the one 3 was free, of the other one it was not there
	for _, page := range []int64{2, 3} {
		wantTake(t, a, page)
		wantTake(t, b, page)
	}
	wantIs(t, a, "nn")
	wantIs(t, b, "nn")
	wantSame(t, "new ones, one of which was free", a, b, false)
	wantGive(t, a, 3, api.OK)
	wantGive(t, b, 3, api.OK)
	wantIs(t, a, "nf")
	wantIs(t, b, "nf")
	wantSame(t, "a free one that was free, or not there", a, b, false)
	c, d := a.Copy(), b.Copy()
	wantUndo(t, c)
	wantUndo(t, d)
	wantSame(t, "both undone", c, d, false)
	wantLasts(t, a)
	wantSame(t, "one that lasted", a, b, false)
	wantLasts(t, b)
	wantSame(t, "both lasted", a, b, true)
}

// A space that is not there

func TestNoSpace(t *testing.T) {
	for what, s := range map[string]*space.Space{"nil": nil, "zero": {}} {
		if page, e := s.Take(); page != 0 || e != api.ErrNil {
			t.Errorf("%s: Take: %d %v", what, page, e)
		}
		for _, page := range []int64{-1, 0, 1, 2, api.MaxPages} {
			wantGive(t, s, page, api.ErrNil)
			if got := s.Is(page); got != api.PlaceNone {
				t.Errorf("%s: Is(%d): %v", what, page, got)
			}
		}
		wantErr(t, what+": Lasts", s.Lasts(), api.ErrNil)
		wantErr(t, what+": Undo", s.Undo(), api.ErrNil)
		wantHigh(t, s, 0)
		for _, list := range [][]int64{s.Free(), s.New(), s.Held(), s.Will()} {
			wantPages(t, what, list)
		}
		if c := s.Copy(); c != nil {
			t.Errorf("%s: Copy: %v", what, c)
		}
		wantSame(t, what, s, nil, true)
		wantSame(t, what, s, fresh(t, 2, 2), false)
		wantSame(t, what, s, fresh(t, 9, 5, 3), false)
	}
	wantSame(t, "two zero ones", &space.Space{}, &space.Space{}, true)
}

func TestOfAMakerThatRefused(t *testing.T) {
	s, _ := space.New(1, 2)
	if _, e := s.Take(); e != api.ErrNil {
		t.Errorf("Take: %v", e)
	}
	wantGive(t, s, 2, api.ErrNil)
}

// The chapter's examples

func TestExamples(t *testing.T) {
	s := fresh(t, 6, 4, 3)
	wantTake(t, s, 3)
	wantTake(t, s, 4)
	wantTake(t, s, 5)
	wantNoRoom(t, s)
	wantGive(t, s, 4, api.OK)
	wantTake(t, s, 4)

	s = fresh(t, 6, 4, 3)
	wantGive(t, s, 2, api.OK)
	wantIs(t, s, "hf")
	wantLasts(t, s)
	wantIs(t, s, "ff")
	wantTake(t, s, 2)
}
