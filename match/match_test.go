package match_test

import (
	"math"
	"slices"
	"strconv"
	"strings"
	"testing"
	"unsafe"

	"pigeonry/api"
	"pigeonry/match"
)

const maxEntries = 4096

func sub(filter, client string, qos int) api.Sub {
	return api.Sub{Filter: filter, Client: client, Qos: qos}
}

func told(client string, qos int) api.Told { return api.Told{Client: client, Qos: qos} }

// bookOf tells a book of such entries, each of which is new.
func bookOf(t *testing.T, all ...api.Sub) *match.Book {
	t.Helper()
	b := match.New()
	for _, s := range all {
		wantSet(t, b, s, true)
	}
	return b
}

func wantSet(t *testing.T, b *match.Book, s api.Sub, fresh bool) {
	t.Helper()
	if got, e := b.Set(s); got != fresh || e != api.OK {
		t.Fatalf("Set(%v): %v %v, want %v", s, got, e, fresh)
	}
}

// wantSetError holds the error against that which is told; nothing else may be told, and nothing may have changed.
func wantSetError(t *testing.T, b *match.Book, s api.Sub, want api.Errno) {
	t.Helper()
	was := b.Copy()
	if got, e := b.Set(s); got || e != want {
		t.Errorf("Set(%v): %v %v, want %v", s, got, e, want)
	}
	wantSame(t, "behind what is refused", b, was, true)
}

func wantDrop(t *testing.T, b *match.Book, filter, client string, was bool) {
	t.Helper()
	if got, e := b.Drop(filter, client); got != was || e != api.OK {
		t.Errorf("Drop(%q, %q): %v %v, want %v", filter, client, got, e, was)
	}
}

func wantDropError(t *testing.T, b *match.Book, filter, client string, want api.Errno) {
	t.Helper()
	was := b.Copy()
	if got, e := b.Drop(filter, client); got || e != want {
		t.Errorf("Drop(%.300q, %q): %v %v, want %v", filter, client, got, e, want)
	}
	wantSame(t, "behind what is refused", b, was, true)
}

func wantLeave(t *testing.T, b *match.Book, client string, want int) {
	t.Helper()
	if got, e := b.Leave(client); got != want || e != api.OK {
		t.Errorf("Leave(%q): %d %v, want %d", client, got, e, want)
	}
}

func wantLeaveError(t *testing.T, b *match.Book, client string, want api.Errno) {
	t.Helper()
	was := b.Copy()
	if got, e := b.Leave(client); got != 0 || e != want {
		t.Errorf("Leave(%q): %d %v, want %v", client, got, e, want)
	}
	wantSame(t, "behind what is refused", b, was, true)
}

func wantMeets(t *testing.T, b *match.Book, name string, want ...api.Told) {
	t.Helper()
	if got, e := b.Meets(name); !slices.Equal(got, want) || e != api.OK {
		t.Errorf("Meets(%.300q): %v %v, want %v", name, got, e, want)
	}
}

func wantMeetsError(t *testing.T, b *match.Book, name string, want api.Errno) {
	t.Helper()
	if got, e := b.Meets(name); len(got) != 0 || e != want {
		t.Errorf("Meets(%.300q): %v %v, want %v", name, got, e, want)
	}
}

func wantOf(t *testing.T, b *match.Book, client string, want ...api.Sub) {
	t.Helper()
	if got := b.Of(client); !slices.Equal(got, want) {
		t.Errorf("Of(%q): %v, want %v", client, got, want)
	}
}

func wantAll(t *testing.T, b *match.Book, want ...api.Sub) {
	t.Helper()
	if got := slices.Collect(b.All()); !slices.Equal(got, want) {
		t.Errorf("All: %v, want %v", got, want)
	}
}

func wantCounts(t *testing.T, b *match.Book, length, nodes int) {
	t.Helper()
	if b.Len() != length || b.Nodes() != nodes {
		t.Errorf("Len %d, Nodes %d; want %d, %d", b.Len(), b.Nodes(), length, nodes)
	}
}

// wantSame asks both ways round.
func wantSame(t *testing.T, what string, a, b *match.Book, want bool) {
	t.Helper()
	if match.Same(a, b) != want || match.Same(b, a) != want {
		t.Errorf("%s: Same %v, the other way round %v; want %v", what, match.Same(a, b), match.Same(b, a), want)
	}
}

// The chapter's examples

func TestExamples(t *testing.T) {
	b := match.New()
	wantSet(t, b, sub("a/+", "x", 1), true)
	wantSet(t, b, sub("a/#", "x", 2), true)
	wantSet(t, b, sub("#", "y", 0), true)
	wantMeets(t, b, "a/b", told("x", 2), told("y", 0))
	wantCounts(t, b, 3, 4)
	wantSet(t, b, sub("a/+", "x", 0), false)
	wantDrop(t, b, "a/#", "x", true)
	wantMeets(t, b, "a/b", told("x", 0), told("y", 0))
	wantLeave(t, b, "y", 1)
	wantCounts(t, b, 1, 2)
}

// P14.1: New

func TestNew(t *testing.T) {
	a, b := match.New(), match.New()
	if a == nil || b == nil {
		t.Fatal("New: nil")
	}
	wantAll(t, a)
	wantOf(t, a, "x")
	wantMeets(t, a, "a")
	wantCounts(t, a, 0, 0)
	wantSet(t, a, sub("a", "x", 1), true)
	wantAll(t, b)
	wantCounts(t, b, 0, 0)
}

// P14.1: Set

func TestSetOfOneTwice(t *testing.T) {
	for first := range 3 {
		for second := range 3 {
			b := bookOf(t, sub("a/b", "x", first))
			wantAll(t, b, sub("a/b", "x", first))
			wantSet(t, b, sub("a/b", "x", second), false)
			wantAll(t, b, sub("a/b", "x", second))
			wantMeets(t, b, "a/b", told("x", second))
			wantCounts(t, b, 1, 2)
		}
	}
}

func TestSetOfOneFilterWithSeveralClients(t *testing.T) {
	b := bookOf(t, sub("a/b", "y", 1), sub("a/b", "x", 2), sub("a/b", "z", 0))
	wantAll(t, b, sub("a/b", "x", 2), sub("a/b", "y", 1), sub("a/b", "z", 0))
	wantMeets(t, b, "a/b", told("x", 2), told("y", 1), told("z", 0))
	wantCounts(t, b, 3, 2)
	wantSet(t, b, sub("a/b", "y", 2), false)
	wantAll(t, b, sub("a/b", "x", 2), sub("a/b", "y", 2), sub("a/b", "z", 0))
	wantOf(t, b, "y", sub("a/b", "y", 2))
}

func TestSetOfOneClientWithSeveralFilters(t *testing.T) {
	b := bookOf(t, sub("b", "x", 1), sub("a/b", "x", 2), sub("a", "x", 0))
	wantOf(t, b, "x", sub("a", "x", 0), sub("a/b", "x", 2), sub("b", "x", 1))
	wantCounts(t, b, 3, 3)
	wantSet(t, b, sub("a/b", "x", 0), false)
	wantOf(t, b, "x", sub("a", "x", 0), sub("a/b", "x", 0), sub("b", "x", 1))
	wantMeets(t, b, "a/b", told("x", 0))
	wantMeets(t, b, "b", told("x", 1))
}

// A Client that is spelt as a level, or a filter, is no level.
func TestSetOfClientsThatAreSpeltAsLevels(t *testing.T) {
	all := []api.Sub{sub("a", "#", 0), sub("a", "+", 1), sub("a", "a", 2), sub("a", "b", 0), sub("a/b", "a", 1), sub("a/b", "b", 2)}
	b := bookOf(t, all...)
	wantAll(t, b, all...)
	wantCounts(t, b, 6, 2)
	wantMeets(t, b, "a", told("#", 0), told("+", 1), told("a", 2), told("b", 0))
	wantMeets(t, b, "a/b", told("a", 1), told("b", 2))
	wantMeets(t, b, "b")
	wantDrop(t, b, "a", "b", true)
	wantMeets(t, b, "a/b", told("a", 1), told("b", 2))
}

// P14.1: Drop

func TestDrop(t *testing.T) {
	b := bookOf(t, sub("a/b", "x", 1))
	wantDrop(t, b, "a/b", "x", true)
	wantAll(t, b)
	wantMeets(t, b, "a/b")
	wantCounts(t, b, 0, 0)
	wantDrop(t, b, "a/b", "x", false) // it was there
	wantDrop(t, b, "c", "x", false)   // it never was
	wantSame(t, "one of which all is dropped", b, match.New(), true)
	wantSet(t, b, sub("a/b", "x", 2), true)
	wantAll(t, b, sub("a/b", "x", 2))
}

func TestDropOfWhatIsNotThere(t *testing.T) {
	all := []api.Sub{sub("a/b/c", "x", 1), sub("a/b/c", "y", 2), sub("a/c", "x", 0)}
	b := bookOf(t, all...)
	for _, filter := range []string{"a", "a/b", "/", "a/", "a/b/", "a/b/c/", "a/b/c/d", "a/b/c/d/e", "b", "b/c", "+", "#", "a/#", "a/+", "a/b/#", "a/b/+", "+/b/c", "/a/b/c", "A/b/c"} { // also beginnings of others, and what meets others
		wantDrop(t, b, filter, "x", false)
		wantAll(t, b, all...)
		wantCounts(t, b, 3, 4)
	}
	wantDrop(t, b, "a/c", "y", false) // another Client's
	wantDrop(t, b, "a/b/c", "z", false)
	wantDrop(t, b, "a/b/c", "xx", false)
	wantAll(t, b, all...)
	wantCounts(t, b, 3, 4)
}

func TestDropLeavesOthers(t *testing.T) {
	b := bookOf(t, sub("a", "x", 1), sub("a/b", "x", 2), sub("a/b", "y", 1), sub("a/b/c", "x", 0), sub("a/+", "x", 1))
	wantCounts(t, b, 5, 4)
	wantDrop(t, b, "a/b", "x", true) // its Client has others, its Filter is another one's, and others' beginning
	wantOf(t, b, "x", sub("a", "x", 1), sub("a/+", "x", 1), sub("a/b/c", "x", 0))
	wantMeets(t, b, "a/b", told("x", 1), told("y", 1))
	wantCounts(t, b, 4, 4)
	wantDrop(t, b, "a/b", "y", true)
	wantCounts(t, b, 3, 4) // a/b begins a/b/c yet
	wantDrop(t, b, "a/b/c", "x", true)
	wantCounts(t, b, 2, 2)
	wantDrop(t, b, "a", "x", true)
	wantCounts(t, b, 1, 2)
	wantDrop(t, b, "a/+", "x", true)
	wantCounts(t, b, 0, 0)
}

// P14.1: Leave

func TestLeave(t *testing.T) {
	b := bookOf(t, sub("a", "x", 1), sub("a", "y", 2), sub("a/b", "x", 2), sub("b/+/#", "x", 0), sub("c", "z", 1), sub("a", "xx", 1))
	wantCounts(t, b, 6, 6)
	wantLeave(t, b, "w", 0)
	wantCounts(t, b, 6, 6)
	wantLeave(t, b, "z", 1)
	wantCounts(t, b, 5, 5)
	wantLeave(t, b, "z", 0)
	wantLeave(t, b, "x", 3)
	wantAll(t, b, sub("a", "xx", 1), sub("a", "y", 2))
	wantCounts(t, b, 2, 1)
	wantOf(t, b, "x")
	wantMeets(t, b, "a/b")
	wantLeave(t, b, "x", 0)
	wantLeave(t, b, "xx", 1)
	wantLeave(t, b, "y", 1)
	wantSame(t, "one that all have left", b, match.New(), true)
	wantCounts(t, b, 0, 0)
	wantLeave(t, b, "y", 0)
	wantSet(t, b, sub("a", "x", 2), true)
	wantAll(t, b, sub("a", "x", 2))
}

// P14.2: Meets

func TestMeetsOfOneFilter(t *testing.T) {
	for _, c := range []struct {
		filter    string
		met, left []string
	}{
		{"a/b", []string{"a/b"}, []string{"a", "b", "a/", "/b", "a/bb", "a/b/", "a/b/c", "/a/b", "A/b", "ab"}},
		{"+", []string{"a", "ab", "a$"}, []string{"/", "a/", "/a", "a/b", "$", "$a"}},
		{"+/b", []string{"a/b", "/b", "b/b"}, []string{"b", "a/c", "a/b/", "a/b/c", "/a/b", "$/b", "$a/b"}},
		{"a/+/c", []string{"a/b/c", "a//c", "a/$b/c"}, []string{"a/c", "a/b", "a/b/d", "a/b/b/c", "b/b/c", "a/b/c/d"}},
		{"a/+", []string{"a/b", "a/", "a/$b"}, []string{"a", "b/b", "a/b/", "a//", "a/b/c"}},
		{"+/+", []string{"a/b", "/", "a/", "/b", "a/$"}, []string{"a", "//", "a/b/c", "$/", "$a/b"}},
		{"#", []string{"a", "/", "a/b", "a/b/c", "//", "/$"}, []string{"$", "$a", "$a/b", "$/"}},
		{"a/#", []string{"a", "a/", "a/b", "a/b/c", "a//", "a/$"}, []string{"ab", "b", "b/a", "/a", "/", "$a"}},
		{"a/b/#", []string{"a/b", "a/b/", "a/b/c", "a/b/c/d"}, []string{"a", "a/", "a/c", "b/b"}},
		{"+/#", []string{"a", "/", "a/b", "a/b/c", "/a"}, []string{"$", "$a", "$a/b"}},
		{"a/+/#", []string{"a/", "a/b", "a/b/c", "a//"}, []string{"a", "b/b", "b/b/c"}},
		{"+/b/#", []string{"a/b", "/b", "a/b/c", "a/b/"}, []string{"b", "a/c/b", "a/", "$a/b"}},
		{"$a/b", []string{"$a/b"}, []string{"a/b", "$a", "$/b", "$a/c"}},
		{"$a/#", []string{"$a", "$a/b", "$a/b/c", "$a/"}, []string{"$", "a", "$b", "$ab", "/$a"}},
		{"$a/+", []string{"$a/b", "$a/", "$a/$"}, []string{"$a", "$b/b", "$a/b/c", "$/b"}},
		{"$/#", []string{"$", "$/", "$/a"}, []string{"$a", "$a/b", "a"}},
		{"+/$b", []string{"a/$b", "/$b"}, []string{"a/b", "$b", "$a/$b"}},
		{"/", []string{"/"}, []string{"//", "a", "a/", "/a"}},
		{"//", []string{"//"}, []string{"/", "///", "a//", "/a/", "//a"}},
		{"/#", []string{"/", "/a", "//", "/a/b"}, []string{"a", "a/", "$", "$/a"}},
		{"/+", []string{"/", "/a"}, []string{"a", "//", "/a/b", "a/"}},
		{"+/", []string{"/", "a/"}, []string{"a", "//", "/a", "$/"}},
		{"a//b", []string{"a//b"}, []string{"a/b", "a///b", "a/c/b"}},
		{"a//#", []string{"a/", "a//", "a//b"}, []string{"a", "a/b", "a/b/"}},
		{"+//+", []string{"//", "a//", "//a", "a//b"}, []string{"/", "a/b", "a/b/c", "$//"}},
	} {
		b := bookOf(t, sub(c.filter, "x", 1))
		for _, name := range c.met {
			wantMeets(t, b, name, told("x", 1))
		}
		for _, name := range c.left {
			wantMeets(t, b, name)
		}
	}
}

func TestMeetsOfSeveralFilters(t *testing.T) {
	b := bookOf(t,
		sub("a/b/c", "w", 0), sub("+/b/c", "v", 1), sub("a/+/c", "u", 2), sub("a/b/+", "t", 0), sub("#", "s", 1), sub("a/#", "r", 2), sub("a/b/#", "q", 0), sub("a/b/c/#", "p", 1), sub("+/+/+", "o", 2), sub("+/+/#", "n", 0),
		sub("a/b", "m", 1), sub("a/b/d", "l", 2), sub("+/+", "k", 0), sub("b/#", "j", 1), sub("a/b/c/+", "i", 2), sub("+", "h", 0), sub("$a/#", "g", 1), sub("/#", "f", 2), sub("a", "e", 0))
	wantMeets(t, b, "a/b/c", told("n", 0), told("o", 2), told("p", 1), told("q", 0), told("r", 2), told("s", 1), told("t", 0), told("u", 2), told("v", 1), told("w", 0))
	wantMeets(t, b, "a/b", told("k", 0), told("m", 1), told("n", 0), told("q", 0), told("r", 2), told("s", 1))
	wantMeets(t, b, "a", told("e", 0), told("h", 0), told("r", 2), told("s", 1))
	wantMeets(t, b, "a/b/c/d", told("i", 2), told("n", 0), told("p", 1), told("q", 0), told("r", 2), told("s", 1))
	wantMeets(t, b, "$a", told("g", 1))
	wantMeets(t, b, "$a/b/c", told("g", 1))
	wantMeets(t, b, "$b/b/c")
	wantMeets(t, b, "/", told("f", 2), told("k", 0), told("n", 0), told("s", 1))
}

// A Client behind several filters that meet is told once, with the greatest Qos of these, not of those that do not.
func TestMeetsTellsTheGreatest(t *testing.T) {
	filters := []string{"a/b", "a/+", "+/b", "#", "a/#", "a/b/#"}
	for first := range 3 {
		for second := range 3 {
			for _, one := range filters {
				for _, other := range filters {
					if one == other {
						continue
					}
					b := bookOf(t, sub(one, "x", first), sub(other, "x", second), sub("a/c", "x", 2), sub("+/+", "y", 1))
					wantMeets(t, b, "a/b", told("x", max(first, second)), told("y", 1))
				}
			}
		}
	}
	b := bookOf(t, sub("a", "x", 0), sub("+", "x", 2), sub("#", "x", 1), sub("a/#", "x", 0))
	wantMeets(t, b, "a", told("x", 2))
	wantDrop(t, b, "+", "x", true)
	wantMeets(t, b, "a", told("x", 1))
	wantDrop(t, b, "#", "x", true)
	wantMeets(t, b, "a", told("x", 0))
}

// clients are such as may be, in the order of their bytes.
var clients = []string{"\x00", " ", "#", "+", "/", "10", "9", "A", "B", "a", "a\x00", "a/b", "aa", "aaaaaaaaaaaaaaaaaaaaaaa", "ab", "b", "\xc3", "\u00e4", "\u20ac", "\xff", "\xff\x00", "\xff\xff"}

func TestOrderOfClients(t *testing.T) {
	if !slices.IsSorted(clients) {
		t.Fatal("the clients are not in order")
	}
	b := match.New()
	for i := range clients {
		client := clients[i*5%len(clients)]
		wantSet(t, b, sub("a", client, 1), true)
	}
	var want []api.Told
	var all []api.Sub
	for _, client := range clients {
		want, all = append(want, told(client, 1)), append(all, sub("a", client, 1))
	}
	wantMeets(t, b, "a", want...)
	wantAll(t, b, all...)
	wantCounts(t, b, len(clients), 1)
	for _, client := range clients {
		wantOf(t, b, client, sub("a", client, 1))
	}
	for i, client := range clients {
		wantLeave(t, b, client, 1)
		wantMeets(t, b, "a", want[i+1:]...)
	}
}

// P14.2: Of, All

// ordered are filters in the order of their bytes, which is not that of their levels.
var ordered = []string{"#", "$a", "+", "+/#", "+/+", "/", "/#", "//", "/a", "A", "a", "a ", "a !", "a /b", "a!", "a!/b", "a/", "a/!", "a/#", "a/+", "a//", "a/b", "a/b!", "a/b/c", "a/b0", "a/c", "a0", "a0/b", "ab", "\u00e4", "\u00e4/#", "\u20ac"}

func TestOrderOfFilters(t *testing.T) {
	if !slices.IsSorted(ordered) {
		t.Fatal("the filters are not in order")
	}
	b := match.New()
	for i := range ordered {
		filter := ordered[i*7%len(ordered)]
		wantSet(t, b, sub(filter, "y", 0), true)
		wantSet(t, b, sub(filter, "x", 1), true)
		wantSet(t, b, sub(filter, "xa", 2), true)
	}
	var all, xs []api.Sub
	for _, f := range ordered {
		all = append(all, sub(f, "x", 1), sub(f, "xa", 2), sub(f, "y", 0))
		xs = append(xs, sub(f, "x", 1))
	}
	wantAll(t, b, all...)
	wantOf(t, b, "x", xs...)
	wantOf(t, b, "z")
	wantOf(t, b, "")
	wantOf(t, b, strings.Repeat("x", 24))
	wantOf(t, b, "xaa")
	wantLeave(t, b, "xa", len(ordered))
	wantOf(t, b, "xa")
	wantOf(t, b, "x", xs...)
}

func TestAllWhileTheBookIsChanged(t *testing.T) {
	was := []api.Sub{sub("a", "x", 1), sub("a", "y", 2), sub("a/b", "x", 0), sub("b", "x", 1)}
	change := func(b *match.Book) {
		wantSet(t, b, sub("a", "w", 2), true)
		wantSet(t, b, sub("a", "x", 2), false)
		wantSet(t, b, sub("aa", "x", 2), true)
		wantDrop(t, b, "a/b", "x", true)
		wantLeave(t, b, "y", 1)
	}
	now := []api.Sub{sub("a", "w", 2), sub("a", "x", 2), sub("aa", "x", 2), sub("b", "x", 1)}

	b := bookOf(t, was...)
	all := b.All()
	change(b)
	for range 2 {
		if got := slices.Collect(all); !slices.Equal(got, was) {
			t.Errorf("All, of a book that is changed behind the call: %v", got)
		}
	}
	wantAll(t, b, now...)

	for at := range was { // changed on the way
		b := bookOf(t, was...)
		var got []api.Sub
		for s := range b.All() {
			if len(got) == at {
				change(b)
			}
			got = append(got, s)
		}
		if !slices.Equal(got, was) {
			t.Errorf("All, of a book that is changed at %d: %v", at, got)
		}
		wantAll(t, b, now...)
	}

	b = bookOf(t, was...)
	for s := range b.All() {
		wantDrop(t, b, s.Filter, s.Client, true)
	}
	wantCounts(t, b, 0, 0)
}

func TestAllLeft(t *testing.T) {
	want := []api.Sub{sub("a", "x", 1), sub("a", "y", 2), sub("a/b", "x", 0), sub("b", "x", 1)}
	b := bookOf(t, want...)
	all := b.All()
	for left := 0; left <= len(want); left++ { // at once, in the midst, at the end; the same one again and again
		var got []api.Sub
		for s := range all {
			if len(got) == left {
				break
			}
			got = append(got, s)
		}
		if !slices.Equal(got, want[:left]) {
			t.Errorf("All, left at %d: %v", left, got)
		}
		calls := 0
		all(func(api.Sub) bool { calls++; return calls < left })
		if calls != max(left, 1) {
			t.Errorf("All, left at %d: asked %d times", left, calls)
		}
	}
	for range all { // one within another
		if got := slices.Collect(all); !slices.Equal(got, want) {
			t.Errorf("All, within itself: %v", got)
		}
	}
	wantAll(t, b, want...)
}

// P14.2: Len, Nodes

func TestNodes(t *testing.T) {
	for _, c := range []struct {
		filters []string
		want    int
	}{
		{[]string{"a"}, 1},
		{[]string{"abc"}, 1},
		{[]string{"a/b/c"}, 3},
		{[]string{"ab", "abc"}, 2}, // beginnings are of levels, not of bytes
		{[]string{"a/b", "a/c"}, 3},
		{[]string{"a/b/c", "a/b/d", "a/e"}, 5},
		{[]string{"a", "a/b", "a/b/c"}, 3},
		{[]string{"a/b/c", "a/b", "a"}, 3},
		{[]string{"a/b", "b/a"}, 4},
		{[]string{"a/b", "b/b"}, 4},
		{[]string{"a/a/a"}, 3},
		{[]string{"+", "#"}, 2},
		{[]string{"+/#", "+", "#"}, 3},
		{[]string{"a/+", "a/#", "a/b"}, 4},
		{[]string{"a/+/c", "a/b/c"}, 5},
		{[]string{"/"}, 2},
		{[]string{"//"}, 3},
		{[]string{"/", "//", "///"}, 4},
		{[]string{"///", "/"}, 4},
		{[]string{"/a", "a"}, 3},
		{[]string{"a", "a/"}, 2},
		{[]string{"a/", "a/b"}, 3},
		{[]string{"a//b", "a/b"}, 4},
		{[]string{"/+", "/#", "/"}, 4},
		{[]string{"$a/b", "a/b"}, 4},
		{[]string{"A", "a"}, 2},
		{[]string{strings.Repeat("/", api.MaxTopic)}, api.MaxTopic + 1},
		{[]string{strings.Repeat("/", api.MaxTopic), strings.Repeat("/", api.MaxTopic-1) + "a", strings.Repeat("/", api.MaxTopic-1)}, api.MaxTopic + 2},
		{[]string{strings.Repeat("+/", api.MaxTopic/2-1) + "#", strings.Repeat("+/", api.MaxTopic/2-1) + "+"}, api.MaxTopic/2 + 1},
		{[]string{strings.Repeat("x", api.MaxTopic), strings.Repeat("x", api.MaxTopic-1)}, 2},
	} {
		b := match.New()
		for i, f := range c.filters {
			wantSet(t, b, sub(f, "x", 1), true)
			wantSet(t, b, sub(f, "y", 2), true)
			wantSet(t, b, sub(f, "x", 0), false)
			if b.Len() != 2*i+2 {
				t.Errorf("%.100q: Len %d behind %d", c.filters, b.Len(), i)
			}
		}
		wantCounts(t, b, 2*len(c.filters), c.want)
		wantLeave(t, b, "x", len(c.filters))
		wantCounts(t, b, len(c.filters), c.want)
		for i, f := range c.filters {
			wantDrop(t, b, f, "x", false)
			wantDrop(t, b, f, "y", true)
			if b.Len() != len(c.filters)-i-1 {
				t.Errorf("%.100q: Len %d behind the drop of %d", c.filters, b.Len(), i)
			}
		}
		wantCounts(t, b, 0, 0)
	}
}

func TestCountsBehindEachCall(t *testing.T) {
	b := match.New()
	wantCounts(t, b, 0, 0)
	wantSet(t, b, sub("a/b/c", "x", 1), true)
	wantCounts(t, b, 1, 3)
	wantSet(t, b, sub("a/b/c", "x", 2), false)
	wantCounts(t, b, 1, 3)
	wantSet(t, b, sub("a/b/c", "y", 2), true)
	wantCounts(t, b, 2, 3)
	wantSet(t, b, sub("a", "z", 0), true)
	wantCounts(t, b, 3, 3)
	wantSet(t, b, sub("a//", "x", 0), true)
	wantCounts(t, b, 4, 5)
	wantSet(t, b, sub("/", "x", 0), true)
	wantCounts(t, b, 5, 7)
	wantDrop(t, b, "a/b", "x", false)
	wantCounts(t, b, 5, 7)
	wantDrop(t, b, "a/b/c", "x", true)
	wantCounts(t, b, 4, 7)
	wantDrop(t, b, "a/b/c", "x", false)
	wantCounts(t, b, 4, 7)
	wantDrop(t, b, "a/b/c", "y", true)
	wantCounts(t, b, 3, 5)
	wantLeave(t, b, "y", 0)
	wantCounts(t, b, 3, 5)
	wantLeave(t, b, "x", 2)
	wantCounts(t, b, 1, 1)
	wantLeave(t, b, "z", 1)
	wantCounts(t, b, 0, 0)
}

// P14.2: Copy

func TestCopyGoesOnApart(t *testing.T) {
	was := []api.Sub{sub("a", "x", 1), sub("a/+", "y", 2), sub("a/b", "x", 0), sub("b/#", "x", 2)}
	for _, first := range []bool{true, false} {
		b := bookOf(t, was...)
		c := b.Copy()
		wantAll(t, c, was...)
		wantCounts(t, c, 4, 5)
		wantSame(t, "a copy", b, c, true)
		goes, stays := b, c
		if first {
			goes, stays = c, b
		}
		wantSet(t, goes, sub("a", "x", 2), false)
		wantSet(t, goes, sub("a/b/c", "z", 1), true)
		wantSet(t, goes, sub("c", "z", 1), true)
		wantDrop(t, goes, "a/+", "y", true)
		wantAll(t, stays, was...)
		wantCounts(t, stays, 4, 5)
		wantMeets(t, stays, "a/b", told("x", 0), told("y", 2))
		wantMeets(t, goes, "a/b", told("x", 0))
		wantSame(t, "a copy that went on", b, c, false)
		wantLeave(t, stays, "x", 3)
		wantAll(t, goes, sub("a", "x", 2), sub("a/b", "x", 0), sub("a/b/c", "z", 1), sub("b/#", "x", 2), sub("c", "z", 1))
		wantCounts(t, goes, 5, 6)
		wantAll(t, stays, sub("a/+", "y", 2))
		wantCounts(t, stays, 1, 2)
	}
	b := match.New()
	c := b.Copy()
	wantSame(t, "a copy of one without entries", b, c, true)
	wantSet(t, c, sub("a", "x", 1), true)
	wantCounts(t, b, 0, 0)
	wantCounts(t, c, 1, 1)
}

// P14.2: Same

func TestSame(t *testing.T) {
	all := []api.Sub{sub("a", "x", 1), sub("a/b", "x", 2), sub("a/b", "y", 0), sub("#", "x", 1)}
	a := bookOf(t, all...)
	wantSame(t, "one with itself", a, a, true)
	slices.Reverse(all)
	wantSame(t, "the other way round", a, bookOf(t, all...), true)
	b := bookOf(t, sub("a", "x", 2), sub("c/d", "z", 1), sub("a/b", "y", 0), sub("#", "x", 1), sub("a/b", "x", 2))
	wantSame(t, "another one", a, b, false)
	wantSet(t, b, sub("a", "x", 1), false)
	wantSame(t, "an entry more", a, b, false)
	wantLeave(t, b, "z", 1)
	wantSame(t, "by another way", a, b, true)
	wantSame(t, "two without entries", match.New(), match.New(), true)
	wantSame(t, "one without entries", a, match.New(), false)
}

func TestSameOfWhatDiffers(t *testing.T) {
	all := []api.Sub{sub("a", "x", 1), sub("a/b", "x", 2), sub("a/b", "y", 0), sub("#", "x", 1)}
	a := bookOf(t, all...)
	for i, s := range all {
		for what, other := range map[string]api.Sub{
			"another Filter":     sub("b", s.Client, s.Qos),
			"a level more ahead": sub("c/"+s.Filter, s.Client, s.Qos),
			"an empty one ahead": sub("/"+s.Filter, s.Client, s.Qos),
			"another Client":     sub(s.Filter, "z", s.Qos),
			"another Qos":        sub(s.Filter, s.Client, (s.Qos+1)%3),
			"the third Qos":      sub(s.Filter, s.Client, (s.Qos+2)%3),
		} {
			changed := slices.Clone(all)
			changed[i] = other
			wantSame(t, what, a, bookOf(t, changed...), false)
		}
		wantSame(t, "an entry less", a, bookOf(t, slices.Delete(slices.Clone(all), i, i+1)...), false)
	}
	wantSame(t, "Clients the other way round", bookOf(t, sub("a", "x", 1), sub("b", "y", 1)), bookOf(t, sub("a", "y", 1), sub("b", "x", 1)), false)
	wantSame(t, "Qos the other way round", bookOf(t, sub("a", "x", 1), sub("b", "x", 2)), bookOf(t, sub("a", "x", 2), sub("b", "x", 1)), false)
	wantSame(t, "levels parted elsewhere", bookOf(t, sub("a/b", "x", 1)), bookOf(t, sub("ab", "x", 1)), false)
}

// What may not be, in the order of the chapter's errors

// noFilters are no names either.
var noFilters = []string{"", "a+", "+a", "#/", "a/#/b", "a#", "++", "##", "a/b+/c", "\xff", "a\x00", "\xc0\x80", strings.Repeat("x", api.MaxTopic+1), strings.Repeat("/", api.MaxTopic+1), strings.Repeat("x", 1<<16)}

var noClients = []string{"", strings.Repeat("x", 24), strings.Repeat("\u20ac", 8), strings.Repeat("x", 1<<16)}

var noQos = []int{-1, 3, math.MinInt, math.MaxInt, 1 << 32, 1<<32 + 1, -1 << 32, 256, -256}

func TestClients(t *testing.T) {
	for n, want := range map[int]api.Errno{0: api.ErrArg, 1: api.OK, 2: api.OK, 22: api.OK, 23: api.OK, 24: api.ErrArg, 25: api.ErrArg, 256: api.ErrArg, 257: api.ErrArg} {
		for _, one := range []string{"x", "\x00", "\xff", "/", "+"} {
			client, b := strings.Repeat(one, n), bookOf(t, sub("a", "x!", 1))
			if want != api.OK {
				wantSetError(t, b, sub("a", client, 1), want)
				wantDropError(t, b, "a", client, want)
				wantLeaveError(t, b, client, want)
				continue
			}
			wantSet(t, b, sub("a", client, 1), true)
			wantOf(t, b, client, sub("a", client, 1))
			wantDrop(t, b, "a", client, true)
			wantLeave(t, b, client, 0)
		}
	}
	b := bookOf(t, sub("a", strings.Repeat("\u20ac", 7)+"\u00e4", 1)) // of 23 bytes, and fewer runes
	wantLeave(t, b, strings.Repeat("\u20ac", 7)+"\u00e4", 1)
}

func TestQos(t *testing.T) {
	b := match.New()
	for qos := range 3 {
		wantSet(t, b, sub("a", strconv.Itoa(qos), qos), true)
	}
	wantMeets(t, b, "a", told("0", 0), told("1", 1), told("2", 2))
	for _, qos := range noQos {
		wantSetError(t, b, sub("a", "0", qos), api.ErrArg)
		wantSetError(t, b, sub("a", "x", qos), api.ErrArg)
	}
}

func TestWhatIsNoFilter(t *testing.T) {
	b := bookOf(t, sub("a", "x", 1), sub("#", "x", 2))
	for _, f := range noFilters {
		wantSetError(t, b, sub(f, "x", 1), api.ErrTopic)
		wantDropError(t, b, f, "x", api.ErrTopic)
		wantMeetsError(t, b, f, api.ErrTopic)
		for _, client := range noClients {
			wantDropError(t, b, f, client, api.ErrTopic)
			wantSetError(t, b, sub(f, client, 1), api.ErrTopic)
			wantSetError(t, b, sub(f, client, 3), api.ErrTopic)
		}
		wantSetError(t, b, sub(f, "x", -1), api.ErrTopic)
	}
	for _, n := range []string{"+", "#", "a/+", "a/#", "+/a", "+/#", "a/+/b"} { // filters, but no names
		wantMeetsError(t, b, n, api.ErrTopic)
	}
	for _, client := range noClients {
		wantSetError(t, b, sub("a", client, 1), api.ErrArg)
		wantSetError(t, b, sub("a", client, 3), api.ErrArg)
		wantDropError(t, b, "a", client, api.ErrArg)
		wantLeaveError(t, b, client, api.ErrArg)
		wantOf(t, b, client)
	}
}

func TestFiltersAndNamesAboutTheBound(t *testing.T) {
	x := strings.Repeat("x", api.MaxTopic)
	b := bookOf(t, sub(x, "x", 1), sub(x[:198]+"/#", "y", 2), sub(x[:198]+"/+", "z", 0), sub(x[:199], "w", 1))
	wantSetError(t, b, sub(x+"x", "x", 1), api.ErrTopic)
	wantSetError(t, b, sub(x[:199]+"/#", "x", 1), api.ErrTopic)
	wantMeets(t, b, x, told("x", 1))
	wantMeets(t, b, x[:199], told("w", 1))
	wantMeets(t, b, x[:198], told("y", 2))
	wantMeets(t, b, x[:198]+"/x", told("y", 2), told("z", 0))
	wantMeets(t, b, x[:198]+"//", told("y", 2))
	wantMeetsError(t, b, x+"x", api.ErrTopic)
	wantDropError(t, b, x+"x", "x", api.ErrTopic)
	wantCounts(t, b, 4, 5)
	slashes := strings.Repeat("/", api.MaxTopic)
	b = bookOf(t, sub(slashes, "x", 1), sub(slashes[1:]+"#", "y", 2), sub(strings.Repeat("/+", 100), "z", 0), sub(strings.Repeat("+/", 99)+"#", "w", 1))
	wantMeets(t, b, slashes, told("w", 1), told("x", 1), told("y", 2))
	wantMeets(t, b, slashes[100:], told("w", 1), told("z", 0))
	wantMeets(t, b, slashes[101:], told("w", 1))
	wantMeets(t, b, slashes[102:], told("w", 1))
	wantMeets(t, b, slashes[103:])
	wantMeets(t, b, "$"+slashes[102:])
}

// full tells a book of as many entries as there may be but some, by three shapes: of one Client, of one Filter, of both unlike.
func full(t *testing.T, shape, but int) *match.Book {
	t.Helper()
	b := match.New()
	for i := range maxEntries - but {
		s := sub("a/"+strconv.Itoa(i%64), strconv.Itoa(i/64), 1)
		switch shape {
		case 0:
			s = sub(strconv.Itoa(i), "x", 1)
		case 1:
			s = sub("a", strconv.Itoa(i), 1)
		}
		wantSet(t, b, s, true)
	}
	return b
}

func TestAFullBook(t *testing.T) {
	for shape := range 3 {
		b := full(t, shape, 1)
		there, _ := firstOf(b)
		wantSet(t, b, sub("last/#", "last", 2), true)
		nodes := b.Nodes()
		wantCounts(t, b, maxEntries, nodes)
		for _, s := range []api.Sub{sub("more", "x", 1), sub("last/#", "more", 1), sub("last", "last", 1), sub("a", "more", 0), sub(there.Filter, "more", 1), sub("more", there.Client, 1)} {
			wantSetError(t, b, s, api.ErrLong)
		}
		wantSetError(t, b, sub("a+", "more", 1), api.ErrTopic)
		wantSetError(t, b, sub("more", "", 1), api.ErrArg)
		wantSetError(t, b, sub("more", "more", 3), api.ErrArg)
		wantSetError(t, b, sub(there.Filter, there.Client, 3), api.ErrArg)
		wantSet(t, b, sub("last/#", "last", 0), false) // in place of one it goes
		wantSet(t, b, sub(there.Filter, there.Client, 0), false)
		wantSet(t, b, there, false)
		wantCounts(t, b, maxEntries, nodes)
		wantDrop(t, b, "last/#", "more", false)
		wantSetError(t, b, sub("more", "x", 1), api.ErrLong)
		wantSetError(t, b.Copy(), sub("more", "x", 1), api.ErrLong)
		wantDrop(t, b, there.Filter, there.Client, true)
		wantSet(t, b, sub("more/x", "more", 1), true)
		wantSetError(t, b, there, api.ErrLong)
		wantLeave(t, b, "more", 1)
		wantSet(t, b, there, true)
		wantSetError(t, b, sub("more", "x", 1), api.ErrLong)
		wantCounts(t, b, maxEntries, nodes)
		if all := slices.Collect(b.All()); len(all) != maxEntries || !slices.Contains(all, sub("last/#", "last", 0)) {
			t.Errorf("shape %d: All of a full book: %d", shape, len(all))
		}
	}
}

// firstOf tells the first entry of a book, if there is one.
func firstOf(b *match.Book) (api.Sub, bool) {
	for s := range b.All() {
		return s, true
	}
	return api.Sub{}, false
}

func TestWhoLeavesAFullBook(t *testing.T) {
	b := full(t, 0, 0)
	if got := b.Of("x"); len(got) != maxEntries || !slices.IsSortedFunc(got, func(a, b api.Sub) int { return strings.Compare(a.Filter, b.Filter) }) {
		t.Errorf("Of in a full book: %d", len(got))
	}
	wantLeave(t, b, "x", maxEntries)
	wantCounts(t, b, 0, 0)
	b = full(t, 1, 0)
	if got, e := b.Meets("a"); len(got) != maxEntries || e != api.OK {
		t.Errorf("Meets in a full book: %d %v", len(got), e)
	}
	wantCounts(t, b, maxEntries, 1)
	wantLeave(t, b, "7", 1)
	wantCounts(t, b, maxEntries-1, 1)
	b = full(t, 2, 0)
	wantCounts(t, b, maxEntries, 65)
	wantLeave(t, b, "7", 64)
	wantCounts(t, b, maxEntries-64, 65)
}

// A book that is not there

func TestNoBook(t *testing.T) {
	for what, b := range map[string]*match.Book{"nil": nil, "zero": {}} {
		for _, f := range []string{"a", "a/+", "", "a+", "\xff"} {
			for _, client := range []string{"x", "", strings.Repeat("x", 24)} {
				for _, qos := range []int{0, 2, 3, -1} {
					if is, e := b.Set(sub(f, client, qos)); is || e != api.ErrNil {
						t.Errorf("%s: Set: %v %v", what, is, e)
					}
				}
				if is, e := b.Drop(f, client); is || e != api.ErrNil {
					t.Errorf("%s: Drop: %v %v", what, is, e)
				}
				if n, e := b.Leave(client); n != 0 || e != api.ErrNil {
					t.Errorf("%s: Leave: %d %v", what, n, e)
				}
				wantOf(t, b, client)
			}
			wantMeetsError(t, b, f, api.ErrNil)
		}
		if b.All() == nil {
			t.Fatalf("%s: All is not there", what)
		}
		for range 2 {
			wantAll(t, b)
		}
		wantCounts(t, b, 0, 0)
		if c := b.Copy(); c != nil {
			t.Errorf("%s: Copy: %v", what, c)
		}
		wantSame(t, what+", and nil", b, nil, true)
		wantSame(t, what+", and itself", b, b, true)
		wantSame(t, what+", and one without entries", b, match.New(), false)
		wantSame(t, what+", and one", b, bookOf(t, sub("a", "x", 1)), false)
	}
}

// What is handed in or out is kept apart

// changing tells a text, and what makes another one of it afterwards.
func changing(s string) (string, func()) {
	b := []byte(s)
	return unsafe.String(unsafe.SliceData(b), len(b)), func() {
		for i := range b {
			b[i] = '?'
		}
	}
}

func TestNothingOfWhatIsHandedInIsKept(t *testing.T) {
	b := match.New()
	var changes []func()
	hand := func(s string) string {
		text, change := changing(s)
		changes = append(changes, change)
		return text
	}
	changed := func() {
		for _, change := range changes {
			change()
		}
	}
	wantSet(t, b, sub(hand("a/b"), hand("x"), 1), true)
	changed()
	wantSet(t, b, sub(hand("a"), hand("y"), 1), true)
	changed()
	wantSet(t, b, sub(hand("a/b"), hand("x"), 2), false) // in place of the first one
	changed()
	want := []api.Sub{sub("a", "y", 1), sub("a/b", "x", 2)}
	wantAll(t, b, want...)
	got, e := b.Meets(hand("a/b"))
	of := b.Of(hand("x"))
	all := b.All()
	changed()
	if !slices.Equal(got, []api.Told{told("x", 2)}) || e != api.OK {
		t.Errorf("Meets: %v %v", got, e)
	}
	if !slices.Equal(of, want[1:]) {
		t.Errorf("Of: %v", of)
	}
	if list := slices.Collect(all); !slices.Equal(list, want) {
		t.Errorf("All: %v", list)
	}
	wantDrop(t, b, hand("a"), hand("x"), false)
	wantLeave(t, b, hand("z"), 0)
	changed()
	wantAll(t, b, want...)
	wantCounts(t, b, 2, 2)
	wantDrop(t, b, "a/b", "x", true)
	wantCounts(t, b, 1, 1)
}

// texts tells all texts of some entries.
func texts(all ...api.Sub) (list []string) {
	for _, s := range all {
		list = append(list, s.Filter, s.Client)
	}
	return list
}

func TestAnswersAreNewMemory(t *testing.T) {
	handed := []api.Sub{sub(strings.Clone("a/b"), strings.Clone("x"), 1), sub(strings.Clone("a"), strings.Clone("x"), 2), sub(strings.Clone("a"), strings.Clone("y"), 0)}
	b := bookOf(t, handed...)
	client, name := strings.Clone("x"), strings.Clone("a")
	all := append(texts(handed...), client, name)
	for range 2 {
		all = append(all, texts(b.Of(client)...)...)
		all = append(all, texts(slices.Collect(b.All())...)...)
		all = append(all, texts(slices.Collect(b.Copy().All())...)...)
		met, _ := b.Meets(name)
		for _, one := range met {
			all = append(all, one.Client)
		}
	}
	seen := map[*byte]int{}
	for i, s := range all {
		if at, is := seen[unsafe.StringData(s)]; is {
			t.Errorf("%q at %d shares memory with that at %d", s, i, at)
		}
		seen[unsafe.StringData(s)] = i
	}
}

func TestWhatIsHandedOutMayBeChanged(t *testing.T) {
	want := []api.Sub{sub("a", "x", 1), sub("a/b", "x", 2), sub("b", "y", 0)}
	b := bookOf(t, want...)
	met, _ := b.Meets("a/b")
	of := b.Of("x")
	all := slices.Collect(b.All())
	clear(met)
	clear(of)
	clear(all)
	_, _ = append(met[:0], told("z", 2)), append(of[:0], sub("z", "z", 2))
	wantAll(t, b, want...)
	wantOf(t, b, "x", want[:2]...)
	wantMeets(t, b, "a/b", told("x", 2))
	wantMeets(t, b, "a", told("x", 1))
}
