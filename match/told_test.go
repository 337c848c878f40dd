package match_test

import (
	"fmt"
	"math/bits"
	"slices"
	"strconv"
	"strings"
	"testing"

	"pigeonry/api"
	"pigeonry/match"
	"pigeonry/topic"
)

// list is a book as the chapter tells it: entries, in the order in which they were set.
type list []api.Sub

func (l list) at(filter, client string) int {
	return slices.IndexFunc(l, func(s api.Sub) bool { return s.Filter == filter && s.Client == client })
}

func (l *list) set(s api.Sub) (bool, api.Errno) {
	at := l.at(s.Filter, s.Client)
	switch {
	case !topic.Filter(s.Filter):
		return false, api.ErrTopic
	case s.Client == "" || len(s.Client) > 23 || s.Qos < 0 || s.Qos > 2:
		return false, api.ErrArg
	case at < 0 && len(*l) == maxEntries:
		return false, api.ErrLong
	case at < 0:
		*l = append(*l, s)
		return true, api.OK
	}
	(*l)[at] = s
	return false, api.OK
}

func (l *list) drop(filter, client string) (bool, api.Errno) {
	at := l.at(filter, client)
	switch {
	case !topic.Filter(filter):
		return false, api.ErrTopic
	case client == "" || len(client) > 23:
		return false, api.ErrArg
	case at < 0:
		return false, api.OK
	}
	*l = slices.Delete(*l, at, at+1)
	return true, api.OK
}

func (l *list) leave(client string) (int, api.Errno) {
	if client == "" || len(client) > 23 {
		return 0, api.ErrArg
	}
	was := len(*l)
	*l = slices.DeleteFunc(*l, func(s api.Sub) bool { return s.Client == client })
	return was - len(*l), api.OK
}

func (l list) meets(name string) ([]api.Told, api.Errno) {
	if !topic.Name(name) {
		return nil, api.ErrTopic
	}
	var all []api.Told
	for _, s := range l {
		if is, _ := topic.Meets(s.Filter, name); is {
			all = append(all, told(s.Client, s.Qos))
		}
	}
	slices.SortFunc(all, func(a, b api.Told) int { // the greatest Qos first of each Client
		if a.Client != b.Client {
			return strings.Compare(a.Client, b.Client)
		}
		return b.Qos - a.Qos
	})
	return slices.CompactFunc(all, func(a, b api.Told) bool { return a.Client == b.Client }), api.OK
}

// all tells all in order, as texts of which the byte 0, that no filter has, ends the first one.
func (l list) all() []api.Sub {
	return slices.SortedFunc(slices.Values(l), func(a, b api.Sub) int {
		return strings.Compare(a.Filter+"\x00"+a.Client, b.Filter+"\x00"+b.Client)
	})
}

func (l list) of(client string) []api.Sub {
	return slices.DeleteFunc(l.all(), func(s api.Sub) bool { return s.Client != client })
}

// nodes tells how many beginnings there are: each ends at a slash, or is the filter.
func (l list) nodes() int {
	all := map[string]struct{}{}
	for _, s := range l {
		all[s.Filter] = struct{}{}
		for i := range len(s.Filter) {
			if s.Filter[i] == '/' {
				all[s.Filter[:i]] = struct{}{}
			}
		}
	}
	return len(all)
}

func (l list) same(o list) bool { return slices.Equal(l.all(), o.all()) }

// wantAsTold asks all that can be asked of a book.
func wantAsTold(t *testing.T, what string, b *match.Book, want list, names, clients []string) {
	t.Helper()
	if got := slices.Collect(b.All()); !slices.Equal(got, want.all()) {
		t.Fatalf("%s: All: %v, want %v", what, got, want.all())
	}
	if b.Len() != len(want) || b.Nodes() != want.nodes() {
		t.Fatalf("%s: Len %d, Nodes %d; want %d, %d", what, b.Len(), b.Nodes(), len(want), want.nodes())
	}
	for _, client := range clients {
		if got := b.Of(client); !slices.Equal(got, want.of(client)) {
			t.Fatalf("%s: Of(%q): %v, want %v", what, client, got, want.of(client))
		}
	}
	for _, name := range names {
		got, e := b.Meets(name)
		if all, err := want.meets(name); !slices.Equal(got, all) || e != err {
			t.Fatalf("%s: Meets(%q): %v %v, want %v %v", what, name, got, e, all, err)
		}
	}
}

// spelt tells all texts of at most so many bytes, of some pieces, that are such.
func spelt(such func(string) bool, most int, pieces ...string) []string {
	all := []string{""}
	for at := 0; at < len(all); at++ {
		for _, piece := range pieces {
			if s := all[at] + piece; len(s) <= most {
				all = append(all, s)
			}
		}
	}
	return slices.DeleteFunc(all, func(s string) bool { return !such(s) })
}

// P14.2: a book of all filters of up to five bytes, each of a Client of its own: who is told of all names of up to five bytes.
func TestMeetsAsTold(t *testing.T) {
	b, want := match.New(), list{}
	for i, f := range spelt(topic.Filter, 5, "a", "/", "$", "+", "#") {
		s := sub(f, "c"+strconv.Itoa(i), i%3)
		wantSet(t, b, s, true)
		want = append(want, s)
	}
	wantAsTold(t, "all filters", b, want, spelt(topic.Name, 5, "a", "b", "/", "$"), nil)
}

// Each filter alone, so that none of others is found in its place.
func TestMeetsOfEachAlone(t *testing.T) {
	names := spelt(topic.Name, 4, "a", "b", "/", "$")
	for _, f := range spelt(topic.Filter, 4, "a", "/", "$", "+", "#") {
		s := sub(f, "x", 1)
		wantAsTold(t, f, bookOf(t, s), list{s}, names, []string{"x", "y"})
	}
}

// P14.3: who is told, and all else, does not hang on the order in which entries were set.

// orders does something with each order of some entries.
func orders(all []api.Sub, do func([]api.Sub)) {
	var lay func(n int)
	lay = func(n int) {
		if n == len(all) {
			do(all)
		}
		for i := n; i < len(all); i++ {
			all[n], all[i] = all[i], all[n]
			lay(n + 1)
			all[n], all[i] = all[i], all[n]
		}
	}
	lay(0)
}

var someNames = []string{"a", "b", "/", "a/", "/a", "a/b", "a/b/c", "a//c", "$a", "$a/b", "//", "a/b/c/d"}

var someClients = []string{"x", "y", "z", "xx", ""}

func TestAllOrders(t *testing.T) {
	for _, all := range [][]api.Sub{
		{sub("a/+", "x", 1), sub("a/#", "x", 2), sub("#", "y", 0), sub("a/b", "x", 0), sub("a/b", "y", 2), sub("a", "z", 1)},
		{sub("a", "x", 2), sub("a/b", "x", 1), sub("a/b/c", "x", 0), sub("+/b/#", "y", 1), sub("+/#", "y", 2), sub("a/b/#", "y", 0)},
		{sub("/", "x", 0), sub("//", "x", 1), sub("/#", "x", 2), sub("/+", "y", 0), sub("+/", "y", 1), sub("+/+", "x", 0)},
		{sub("#", "x", 2), sub("+", "x", 1), sub("$a/#", "x", 0), sub("$a/+", "x", 1), sub("+/b", "x", 2), sub("$a", "x", 1)},
	} {
		whole := bookOf(t, all...)
		orders(all, func(all []api.Sub) {
			b := bookOf(t, all...)
			wantAsTold(t, fmt.Sprint(all), b, all, someNames, someClients)
			wantSame(t, fmt.Sprint(all), b, whole, true)
		})
	}
}

// P14.3: what is set and dropped leaves all as it was.
func TestSetAndDropped(t *testing.T) {
	filters := spelt(topic.Filter, 4, "a", "b", "/", "+", "#")
	b, want := match.New(), list{}
	for _, s := range []api.Sub{{}, sub("a", "x", 1), sub("a/b", "x", 2), sub("+/b", "y", 0), sub("/", "y", 1), sub("a/#", "x", 0), sub("a/b/c/d", "y", 2)} {
		if s.Client != "" {
			wantSet(t, b, s, true)
			want = append(want, s)
		}
		was := b.Copy()
		for i, f := range filters {
			if want.at(f, "x") < 0 {
				wantSet(t, b, sub(f, "x", i%3), true)
				wantDrop(t, b, f, "x", true)
			}
			wantSet(t, b, sub(f, "z", i%3), true)
			wantLeave(t, b, "z", 1)
			wantAsTold(t, f, b, want, someNames, someClients)
		}
		for _, f := range filters {
			wantSet(t, b, sub(f, "z", 2), true)
		}
		for _, f := range filters {
			wantDrop(t, b, f, "z", true)
		}
		wantAsTold(t, "all set and dropped", b, want, someNames, someClients)
		for _, f := range filters {
			wantSet(t, b, sub(f, "z", 2), true)
		}
		wantLeave(t, b, "z", len(filters))
		wantAsTold(t, "all set and left", b, want, someNames, someClients)
		wantSame(t, "all as it was", b, was, true)
	}
}

// Entries that are set, then dropped in each order: each one leaves those that are set alone.
func TestAllOrdersOfDrops(t *testing.T) {
	all := []api.Sub{sub("a", "x", 1), sub("a/b", "x", 2), sub("a/b", "y", 0), sub("a/b/c", "x", 1), sub("/b", "y", 1), sub("#", "x", 0)}
	whole := bookOf(t, all...)
	orders(slices.Clone(all), func(order []api.Sub) {
		b, left := whole.Copy(), list(slices.Clone(all))
		for _, s := range order {
			wantDrop(t, b, s.Filter, s.Client, true)
			left.drop(s.Filter, s.Client)
			wantAsTold(t, fmt.Sprint(order), b, left, []string{"a", "a/b", "a/b/c", "/b"}, someClients[:2])
		}
	})
}

// dice tells numbers that are the same each time.
type dice uint32

func (d *dice) roll(n int) int {
	*d = *d*1664525 + 1013904223
	return int(uint64(bits.RotateLeft32(uint32(*d), 16)) % uint64(n))
}

func (d *dice) of(all ...string) string { return all[d.roll(len(all))] }

// filter tells one, or what is none, now and then.
func (d *dice) filter() string {
	levels := []string{d.of("a", "b", "", "+", "$a")}
	for range d.roll(5) {
		levels = append(levels, d.of("a", "b", "", "+", "+", "c+", "$a"))
	}
	for i, level := range levels {
		if level == "c+" && d.roll(8) > 0 {
			levels[i] = "c"
		}
	}
	if d.roll(3) == 0 {
		levels = append(levels, "#")
	}
	return strings.Join(levels, "/")
}

func (d *dice) name() string {
	levels := []string{d.of("a", "b", "", "$a", "c")}
	for range d.roll(6) {
		levels = append(levels, d.of("a", "b", "", "c", "$a", "a", "b", "+a"))
	}
	return strings.Join(levels, "/")
}

func (d *dice) client() string {
	return d.of("x", "y", "z", "xx", "\xff", "u", "v", "w", "", "a client of 24 bytes ...")
}

func (d *dice) sub() api.Sub { return sub(d.filter(), d.client(), d.roll(20)%4) }

// wantCall does some call to both.
func wantCall(t *testing.T, what string, d *dice, b *match.Book, want *list) {
	t.Helper()
	switch {
	case d.roll(40) == 0:
		client := d.client()
		n, e := b.Leave(client)
		if told, err := want.leave(client); n != told || e != err {
			t.Fatalf("%s: Leave(%q): %d %v, want %d %v", what, client, n, e, told, err)
		}
	case d.roll(3) == 0:
		s := d.sub()
		if len(*want) > 0 && d.roll(3) > 0 {
			s = (*want)[d.roll(len(*want))]
		}
		was, e := b.Drop(s.Filter, s.Client)
		if told, err := want.drop(s.Filter, s.Client); was != told || e != err {
			t.Fatalf("%s: Drop(%q, %q): %v %v, want %v %v", what, s.Filter, s.Client, was, e, told, err)
		}
	default:
		s := d.sub()
		fresh, e := b.Set(s)
		if told, err := want.set(s); fresh != told || e != err {
			t.Fatalf("%s: Set(%v): %v %v, want %v %v", what, s, fresh, e, told, err)
		}
	}
}

// P14.1, P14.2: lives of many calls beside a plain list; copies go on apart.
func TestLongLives(t *testing.T) {
	for seed := range 40 {
		d := dice(seed)
		books, lists := []*match.Book{match.New()}, []list{{}}
		for step := range 300 {
			what := fmt.Sprintf("seed %d, step %d", seed, step)
			i := d.roll(len(books))
			wantCall(t, what, &d, books[i], &lists[i])
			if d.roll(30) == 0 {
				to := d.roll(4)
				if to >= len(books) {
					books, lists = append(books, nil), append(lists, nil)
					to = len(books) - 1
				}
				books[to], lists[to] = books[i].Copy(), slices.Clone(lists[i])
			}
			names := []string{d.name(), d.name(), d.name()}
			for j := range books {
				wantAsTold(t, what, books[j], lists[j], names, []string{d.client()})
				if got := match.Same(books[i], books[j]); got != lists[i].same(lists[j]) {
					t.Fatalf("%s: Same: %v, want %v", what, got, !got)
				}
			}
		}
	}
}

// Calls about the greatest number of entries there may be, of twice as many.
func TestLivesOfFullBooks(t *testing.T) {
	d := dice(7)
	var all []api.Sub
	for i := range 2 * maxEntries {
		all = append(all, sub([]string{"a/", "+/", "b/a/"}[i%3]+strconv.Itoa(i%700), "c"+strconv.Itoa(i/300), i%3))
	}
	b, want := match.New(), map[api.Sub]int{} // by Filters and Clients
	refused := 0
	for step := range 4 * maxEntries {
		s := all[d.roll(len(all))]
		if step < maxEntries-20 {
			s = all[step]
		}
		by := sub(s.Filter, s.Client, 0)
		_, was := want[by]
		if len(want) > maxEntries-20 && d.roll(2) == 0 {
			wantDrop(t, b, s.Filter, s.Client, was)
			delete(want, by)
			continue
		}
		s.Qos = d.roll(3)
		fresh, e := b.Set(s)
		if !was && len(want) == maxEntries {
			refused++
			if fresh || e != api.ErrLong {
				t.Fatalf("step %d: Set(%v): %v %v", step, s, fresh, e)
			}
			continue
		}
		want[by] = s.Qos
		if fresh == was || e != api.OK || b.Len() != len(want) {
			t.Fatalf("step %d: Set(%v): %v %v; Len %d, want %d", step, s, fresh, e, b.Len(), len(want))
		}
	}
	if refused < 100 {
		t.Errorf("only %d were refused", refused)
	}
	var left list
	for by, qos := range want {
		left = append(left, sub(by.Filter, by.Client, qos))
	}
	wantAsTold(t, "a full book", b, left, []string{"a/1", "x/4", "b/a/2", "b/3"}, []string{"c0", "c7", "c13", "d"})
}
