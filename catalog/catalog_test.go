package catalog_test

import (
	"encoding/binary"
	"fmt"
	"math"
	"slices"
	"strings"
	"testing"

	"pigeonry/api"
	"pigeonry/catalog"
	"pigeonry/disk"
	"pigeonry/meta"
	"pigeonry/page"
	"pigeonry/pager"
)

// long tells a key of so many bytes.
func long(key string, size int) string { return key + strings.Repeat(".", size-len(key)) }

// text tells a value of so many bytes, no two runs of which that are as long as a page are the same.
func text(size int) string {
	b := make([]byte, size)
	for i := range b {
		b[i] = byte(i*7 + i/256*13 + size)
	}
	return string(b)
}

func wantErr(t *testing.T, what string, got, want api.Errno) {
	t.Helper()
	if got != want {
		t.Errorf("%s: %v, want %v", what, got, want)
	}
}

func freshDisk(t *testing.T, pages int) *disk.Disk {
	t.Helper()
	d, e := disk.New(pages)
	if e != api.OK {
		t.Fatalf("New(%d): %v", pages, e)
	}
	return d
}

func opened(t *testing.T, d *disk.Disk) *catalog.Catalog {
	t.Helper()
	c, e := catalog.Open(d)
	if e != api.OK || c == nil {
		t.Fatalf("Open: %v %v", c, e)
	}
	return c
}

// fresh tells a catalog of a disk of so many pages, in which nothing stands.
func fresh(t *testing.T, pages int) (*catalog.Catalog, *disk.Disk) {
	t.Helper()
	d := freshDisk(t, pages)
	if e := catalog.Make(d); e != api.OK {
		t.Fatalf("Make of %d pages: %v", pages, e)
	}
	return opened(t, d), d
}

func put(t *testing.T, c *catalog.Catalog, name, key, value string) {
	t.Helper()
	if e := c.Put(name, key, value); e != api.OK {
		t.Fatalf("Put(%q, %q, %d bytes): %v", name, key, len(value), e)
	}
}

// wantDrop drops, and asks whether it stood there.
func wantDrop(t *testing.T, c *catalog.Catalog, name, key string, want bool) {
	t.Helper()
	if is, e := c.Drop(name, key); is != want || e != api.OK {
		t.Fatalf("Drop(%q, %q): %v %v, want %v", name, key, is, e, want)
	}
}

// wantClear clears, and asks whether something stood there.
func wantClear(t *testing.T, c *catalog.Catalog, name string, want bool) {
	t.Helper()
	if is, e := c.Clear(name); is != want || e != api.OK {
		t.Fatalf("Clear(%q): %v %v, want %v", name, is, e, want)
	}
}

func wantCommit(t *testing.T, c *catalog.Catalog) {
	t.Helper()
	if e := c.Commit(); e != api.OK {
		t.Fatalf("Commit: %v", e)
	}
}

func wantAbort(t *testing.T, c *catalog.Catalog) {
	t.Helper()
	if e := c.Abort(); e != api.OK {
		t.Fatalf("Abort: %v", e)
	}
}

func wantValue(t *testing.T, c *catalog.Catalog, name, key, want string) {
	t.Helper()
	if value, is, e := c.Get(name, key); value != want || !is || e != api.OK {
		t.Errorf("Get(%q, %q): %d bytes %v %v, want %d bytes", name, key, len(value), is, e, len(want))
	}
}

func wantNone(t *testing.T, c *catalog.Catalog, name, key string) {
	t.Helper()
	if value, is, e := c.Get(name, key); value != "" || is || e != api.OK {
		t.Errorf("Get(%q, %q): %q %v %v, want none", name, key, value, is, e)
	}
}

func wantNames(t *testing.T, c *catalog.Catalog, want ...string) {
	t.Helper()
	if names, e := c.Names(); !slices.Equal(names, want) || e != api.OK {
		t.Errorf("Names: %q %v, want %q", names, e, want)
	}
}

func wantChanged(t *testing.T, what string, c *catalog.Catalog, want bool) {
	t.Helper()
	if got := c.Changed(); got != want {
		t.Errorf("%s: Changed: %v, want %v", what, got, want)
	}
}

// wantLasts asks for all that stands, also when the disk is opened anew.
func wantLasts(t *testing.T, what string, c *catalog.Catalog, d *disk.Disk, want shelf) {
	t.Helper()
	wantAll(t, what, c, want)
	wantChanged(t, what, c, false)
	wantPages(t, what, c)
	o := opened(t, d.Copy())
	wantAll(t, what+": opened anew", o, want)
	wantChanged(t, what+": opened anew", o, false)
	wantPages(t, what+": opened anew", o)
	if o.Meta() != c.Meta() {
		t.Errorf("%s: opened anew: %v, want %v", what, o.Meta(), c.Meta())
	}
}

// few are three trees, one of them with a chain.
func few() shelf {
	return shelf{"x": {"a": "1", "b": "2"}, "y": {"a": text(500)}, "z": {"k": ""}}
}

// stocked puts, by names and keys.
func stocked(t *testing.T, c *catalog.Catalog, s shelf) {
	t.Helper()
	for _, line := range lines(s) {
		put(t, c, line[0], line[1], s[line[0]][line[1]])
	}
}

// lines tells names and keys, rising.
func lines(s shelf) (all [][2]string) {
	for name, pairs := range s {
		for key := range pairs {
			all = append(all, [2]string{name, key})
		}
	}
	slices.SortFunc(all, func(a, b [2]string) int {
		return strings.Compare(a[0]+"\x00"+a[1], b[0]+"\x00"+b[1])
	})
	return all
}

// answers are those of all calls but Abort and Commit that may be refused, and the errors beside which they stand.
type answers struct {
	value                string
	got, dropped, clears bool
	pairs                []api.Pair
	names                []string
	pages, list, free    []int64
}

// ask does each call that takes a name, a key, a value, or a number.
func ask(c *catalog.Catalog, name, key, value string, most int) (a answers, all map[string]api.Errno) {
	all = map[string]api.Errno{}
	a.value, a.got, all["Get"] = c.Get(name, key)
	all["Put"] = c.Put(name, key, value)
	a.dropped, all["Drop"] = c.Drop(name, key)
	a.pairs, all["From"] = c.From(name, key, most)
	a.clears, all["Clear"] = c.Clear(name)
	return a, all
}

// zero tells whether there are no answers.
func (a answers) zero() bool {
	return a.value == "" && !a.got && !a.dropped && !a.clears && len(a.pairs)+len(a.names)+len(a.pages)+len(a.list)+len(a.free) == 0
}

// wantNothing asks whether each call of a catalog is refused with an error, whatever it is asked.
func wantNothing(t *testing.T, what string, c *catalog.Catalog, want api.Errno) {
	t.Helper()
	for _, key := range []string{"a", "", long("a", 49)} {
		for _, name := range []string{"x", "", long("x", 49)} {
			a, all := ask(c, name, key, text(4097*len(key)), 1-2*len(name))
			a.names, all["Names"] = c.Names()
			a.pages, a.list, a.free, all["Pages"] = c.Pages()
			all["Commit"], all["Abort"] = c.Commit(), c.Abort()
			for call, e := range all {
				wantErr(t, fmt.Sprintf("%s: %s(%d bytes, %d bytes)", what, call, len(name), len(key)), e, want)
			}
			if !a.zero() {
				t.Errorf("%s: beside an error: %v", what, a)
			}
		}
	}
	wantChanged(t, what, c, false)
}

// P11.1: Make, Open

func TestMake(t *testing.T) {
	d := freshDisk(t, 20)
	wantErr(t, "Make", catalog.Make(d), api.OK)
	other := freshDisk(t, 20)
	pager.Make(other)
	if !disk.Same(d, other) {
		t.Errorf("Make does not make a store")
	}
	c := opened(t, d)
	if c.Meta() != (api.Meta{Txid: 1, High: 2}) {
		t.Errorf("Meta: %v", c.Meta())
	}
	wantLasts(t, "a store in which nothing stands", c, d, shelf{})
}

func TestMakeAnewEndsWhatStood(t *testing.T) {
	c, d := fresh(t, 40)
	stocked(t, c, few())
	wantCommit(t, c)
	wantErr(t, "Make", catalog.Make(d), api.OK)
	wantLasts(t, "made anew", opened(t, d), d, shelf{})
}

func TestMakeIsRefused(t *testing.T) {
	wantErr(t, "Make of no disk", catalog.Make(nil), api.ErrNil)
	wantErr(t, "Make of a zero disk", catalog.Make(&disk.Disk{}), api.ErrNil)
	for steps := range 4 {
		for kind, want := range map[api.Arm]api.Errno{api.ArmStop: api.ErrDead, api.ArmFail: api.ErrFault} {
			d := freshDisk(t, 20)
			d.Arm(kind, steps)
			if steps == 3 {
				want = api.OK
			}
			wantErr(t, fmt.Sprintf("Make, armed with %d and %d", kind, steps), catalog.Make(d), want)
		}
	}
}

func wantNotOpened(t *testing.T, what string, d *disk.Disk, want api.Errno) {
	t.Helper()
	was := d.Copy()
	if c, e := catalog.Open(d); c != nil || e != want {
		t.Errorf("%s: Open: %v %v, want none %v", what, c, e, want)
	}
	if !disk.Same(d, was) {
		t.Errorf("%s: Open changes the disk", what)
	}
}

func TestOpenOfNoStore(t *testing.T) {
	wantNotOpened(t, "no disk", nil, api.ErrNil)
	wantNotOpened(t, "a zero disk", &disk.Disk{}, api.ErrNil)
	for _, pages := range []int{2, 20, api.MaxPages} {
		wantNotOpened(t, "a disk of noughts", freshDisk(t, pages), api.ErrMeta)
	}
	c, d := fresh(t, 40)
	stocked(t, c, few())
	wantCommit(t, c)
	small := freshDisk(t, int(c.Meta().High)-1)
	for number := range small.Pages() {
		b, _ := d.Read(number)
		small.Write(number, b)
	}
	wantNotOpened(t, "a disk of too few pages", small, api.ErrStore)
}

func TestOpenGoesOnWithTheDisk(t *testing.T) {
	c, d := fresh(t, 40)
	put(t, c, "x", "a", "1")
	was := d.Copy()
	if !disk.Same(d, was) || d.Steps() != 3 {
		t.Errorf("Put writes to the disk")
	}
	wantCommit(t, c)
	wantLasts(t, "a commit", c, d, shelf{"x": {"a": "1"}})
	if d.Steps() == 3 {
		t.Errorf("Commit does not write to the disk")
	}
}

// P11.1: names, keys and values that may be

// edges are names and keys that may be.
func edges() []string {
	return []string{"a", "\x00", "\x00\x00", "\xff", "\xc3\x28", long("m", api.MaxKey-1), long("m", api.MaxKey), strings.Repeat("\xff", api.MaxKey), strings.Repeat("\x00", api.MaxKey)}
}

func TestEachNameAndKey(t *testing.T) {
	c, d := fresh(t, 300)
	s := shelf{}
	for _, name := range edges() {
		for _, key := range edges() {
			wantNone(t, c, name, key)
			s.put(name, key, "of "+name+" "+key[:1])
			put(t, c, name, key, s[name][key])
			wantValue(t, c, name, key, s[name][key])
		}
		wantAll(t, name, c, s)
	}
	wantCommit(t, c)
	wantLasts(t, "all names and keys", c, d, s)
	for _, name := range edges() {
		for _, key := range edges() {
			wantDrop(t, c, name, key, true)
			wantDrop(t, c, name, key, false)
			wantNone(t, c, name, key)
			s.drop(name, key)
		}
		wantAll(t, name, c, s)
	}
	wantCommit(t, c)
	wantLasts(t, "no names and keys", c, d, shelf{})
}

func TestEachValue(t *testing.T) {
	for _, size := range []int{0, 1, api.MaxInline - 1, api.MaxInline, api.MaxInline + 1, api.MaxRoom, api.MaxRoom + 1, api.MaxValue - 1, api.MaxValue} {
		c, d := fresh(t, 60)
		put(t, c, "x", "k", text(size))
		put(t, c, "y", "k", "1")
		wantValue(t, c, "x", "k", text(size))
		wantCommit(t, c)
		wantLasts(t, fmt.Sprint(size, " bytes"), c, d, shelf{"x": {"k": text(size)}, "y": {"k": "1"}})
		put(t, c, "x", "k", "another")
		wantValue(t, c, "x", "k", "another")
		wantCommit(t, c)
		wantLasts(t, "another value", c, d, shelf{"x": {"k": "another"}, "y": {"k": "1"}})
	}
}

// wantWrong asks whether some calls refuse a name, a key, a value or a number, change nothing, and let the transaction go on.
func wantWrong(t *testing.T, c *catalog.Catalog, name, key, value string, most int, refuse ...string) {
	t.Helper()
	was := c.Copy()
	_, all := ask(c.Copy(), name, key, value, most)
	for _, call := range refuse {
		o := c.Copy()
		var a answers
		var e api.Errno
		switch call {
		case "Get":
			a.value, a.got, e = o.Get(name, key)
		case "Put":
			e = o.Put(name, key, value)
		case "Drop":
			a.dropped, e = o.Drop(name, key)
		case "From":
			a.pairs, e = o.From(name, key, most)
		case "Clear":
			a.clears, e = o.Clear(name)
		}
		what := fmt.Sprintf("%s(%d bytes, %d bytes, %d bytes, %d)", call, len(name), len(key), len(value), most)
		wantErr(t, what, e, api.ErrArg)
		wantSameCatalog(t, what, o, was)
		if !a.zero() {
			t.Errorf("%s: beside an error: %v", what, a)
		}
		delete(all, call)
	}
	for call, e := range all {
		wantErr(t, call, e, api.OK)
	}
}

func TestWhatMayNotBe(t *testing.T) {
	c, _ := fresh(t, 80)
	stocked(t, c, few())
	for range 3 { // of nothing that lasts; of a transaction; of what lasts alone
		for _, name := range []string{"", long("x", api.MaxKey+1), long("x", 256), long("x", 1<<20)} {
			wantWrong(t, c, name, "a", "1", 1, "Get", "Put", "Drop", "From", "Clear")
			wantWrong(t, c, name, "", text(5000), -1, "Get", "Put", "Drop", "From", "Clear")
		}
		for _, name := range []string{"x", "none", long("x", api.MaxKey)} {
			wantWrong(t, c, name, "", "1", 1, "Get", "Put", "Drop")
			for _, key := range []string{long("a", api.MaxKey+1), long("a", 257), long("a", 1<<20)} {
				wantWrong(t, c, name, key, "1", 1, "Get", "Put", "Drop", "From")
			}
			for _, size := range []int{api.MaxValue + 1, api.MaxText, 1 << 20} {
				wantWrong(t, c, name, "a", text(size), 1, "Put")
			}
			for _, most := range []int{-1, math.MinInt32, math.MinInt} {
				wantWrong(t, c, name, "a", "1", most, "From")
			}
			wantWrong(t, c, name, long("k", api.MaxKey), text(api.MaxValue), math.MaxInt)
		}
		wantCommit(t, c)
		put(t, c, "x", "a", "3")
	}
}

// P11.1: where nothing stands

func TestANameOfWhichNothingStands(t *testing.T) {
	c, d := fresh(t, 60)
	for i, s := range []shelf{{}, few(), few()} {
		if i == 1 {
			stocked(t, c, few())
		} else {
			wantCommit(t, c)
		}
		was := c.Copy()
		for _, name := range []string{"none", "w", "xx", "y\x00", "zz", "\x00", long("x", api.MaxKey)} {
			for _, key := range []string{"a", "k", long("a", api.MaxKey)} {
				wantNone(t, c, name, key)
				wantDrop(t, c, name, key, false)
				for _, most := range []int{0, 1, math.MaxInt} {
					if pairs, e := c.From(name, key[:most%2], most); len(pairs) != 0 || e != api.OK {
						t.Errorf("From(%q): %v %v", name, pairs, e)
					}
				}
			}
			wantClear(t, c, name, false)
		}
		wantSameCatalog(t, "what is asked of none", c, was)
		wantAll(t, "what is asked of none", c, s)
	}
	wantLasts(t, "what is asked of none", c, d, few())
}

// Keys of one tree are not those of another one.
func TestTreesAreApart(t *testing.T) {
	c, d := fresh(t, 100)
	s := shelf{}
	for i, name := range []string{"x", "xx", "y", "a"} {
		for j, key := range []string{"a", "x", "xx", "y"} {
			if i != j {
				s.put(name, key, name+" "+key)
				put(t, c, name, key, s[name][key])
			}
		}
	}
	wantAll(t, "four trees", c, s)
	for i, name := range []string{"x", "xx", "y", "a"} {
		wantNone(t, c, name, []string{"a", "x", "xx", "y"}[i])
	}
	wantDrop(t, c, "xx", "a", true)
	s.drop("xx", "a")
	wantAll(t, "dropped", c, s)
	wantClear(t, c, "y", true)
	delete(s, "y")
	wantAll(t, "cleared", c, s)
	wantCommit(t, c)
	wantLasts(t, "committed", c, d, s)
}

// P11.1: From

func TestFrom(t *testing.T) {
	c, d := fresh(t, 200)
	keys := []string{}
	for i := range 40 {
		keys = append(keys, fmt.Sprint(100+i))
		put(t, c, "x", keys[i], text(i*2))
		put(t, c, "y", keys[i], "another")
	}
	for range 2 {
		for _, most := range []int{0, 1, 2, 39, 40, 41, math.MaxInt} {
			for at, key := range append([]string{""}, keys...) {
				pairs, e := c.From("x", key, most)
				at = max(0, at-1)
				want := keys[at : min(len(keys)-at, most)+at]
				if len(pairs) != len(want) || e != api.OK {
					t.Fatalf("From(%q, %d): %d %v, want %d", key, most, len(pairs), e, len(want))
				}
				for i, pair := range pairs {
					if pair != (api.Pair{Key: want[i], Value: text((at + i) * 2)}) {
						t.Errorf("From(%q, %d): pair %d: %q", key, most, i, pair.Key)
					}
				}
			}
		}
		for key, want := range map[string]string{"0": "100", "1005": "101", "1": "100", "139": "139", "13\xff": ""} {
			pairs, e := c.From("x", key, 1)
			if e != api.OK || len(pairs) != min(1, len(want)) || len(pairs) > 0 && pairs[0].Key != want {
				t.Errorf("From(%q): %v %v, want %q", key, pairs, e, want)
			}
		}
		wantCommit(t, c)
	}
	c = opened(t, d)
	if pairs, e := c.From("x", long("1", api.MaxKey), 3); len(pairs) != 3 || pairs[0].Key != "100" || e != api.OK {
		t.Errorf("From: %v %v", pairs, e)
	}
}

// P11.1: trees that come to be, and go

func TestATreeComesAndGoes(t *testing.T) {
	goes := map[string]func(c *catalog.Catalog){
		"dropped": func(c *catalog.Catalog) {
			wantDrop(t, c, "x", "a", true)
			wantNames(t, c, "x")
			wantDrop(t, c, "x", "b", true)
			wantDrop(t, c, "x", "b", false)
			wantClear(t, c, "x", false)
		},
		"cleared": func(c *catalog.Catalog) {
			wantClear(t, c, "x", true)
			wantClear(t, c, "x", false)
			wantDrop(t, c, "x", "a", false)
		},
	}
	for what, end := range goes {
		for _, commits := range []bool{false, true} {
			c, d := fresh(t, 40)
			then := func(s shelf) {
				t.Helper()
				wantAll(t, what, c, s)
				if commits {
					wantCommit(t, c)
					wantLasts(t, what, c, d, s)
				}
			}
			full := shelf{"x": {"a": "1", "b": text(300)}}
			for range 3 {
				stocked(t, c, full)
				wantNames(t, c, "x")
				then(full)
				end(c)
				wantNames(t, c)
				wantNone(t, c, "x", "a")
				then(shelf{})
			}
			wantCommit(t, c)
			wantLasts(t, what, c, d, shelf{})
			if c.Meta().Root != 0 {
				t.Errorf("%s: where nothing stands the root is %d", what, c.Meta().Root)
			}
			stocked(t, c, full)
			wantCommit(t, c)
			end(c)
			stocked(t, c, shelf{"x": {"c": "3"}})
			wantNone(t, c, "x", "a")
			then(shelf{"x": {"c": "3"}})
			wantAbort(t, c)
			if !commits {
				wantLasts(t, what, c, d, full)
			}
		}
	}
}

func TestClear(t *testing.T) {
	c, d := fresh(t, 400)
	s := few()
	for i := range 100 {
		s.put("big", fmt.Sprint(i), text(i*7%400))
	}
	stocked(t, c, s)
	wantCommit(t, c)
	pages, _, _, _ := c.Pages()
	delete(s, "big")
	wantClear(t, c, "big", true)
	wantAll(t, "cleared", c, s)
	wantAbort(t, c)
	if _, is, _ := c.Get("big", "99"); !is {
		t.Errorf("Abort does not bring back what was cleared")
	}
	wantClear(t, c, "big", true)
	wantCommit(t, c)
	wantLasts(t, "cleared", c, d, s)
	left, _, free, _ := c.Pages()
	if len(left) > 20 || len(free) < len(pages)-20 {
		t.Errorf("Clear leaves %d pages of %d, %d are free", len(left), len(pages), len(free))
	}
}

// P11.1: Names

func TestNames(t *testing.T) {
	c, d := fresh(t, 60)
	wantNames(t, c)
	put(t, c, "y", "a", "1")
	wantNames(t, c, "y")
	put(t, c, "x", "a", "1")
	put(t, c, "\xff", "a", "1")
	put(t, c, "x\x00", "a", "1")
	wantNames(t, c, "x", "x\x00", "y", "\xff")
	wantAbort(t, c)
	wantNames(t, c)
	stocked(t, c, few())
	wantCommit(t, c)
	wantNames(t, c, "x", "y", "z")
	wantDrop(t, c, "z", "k", true)
	put(t, c, "w", "a", "1")
	wantDrop(t, c, "x", "a", true)
	wantNames(t, c, "w", "x", "y")
	wantNames(t, opened(t, d.Copy()), "x", "y", "z")
	wantAbort(t, c)
	wantNames(t, c, "x", "y", "z")
	wantClear(t, c, "y", true)
	wantCommit(t, c)
	wantNames(t, c, "x", "z")
	wantNames(t, opened(t, d), "x", "z")
}

// Many names: the catalog's own tree has several pages, and levels.
func TestManyNames(t *testing.T) {
	c, d := fresh(t, 1500)
	s := shelf{}
	name := func(i int) string { return long(fmt.Sprint(1000+i*397%500), 4+i%45) }
	for i := range 500 {
		s.put(name(i), "k", fmt.Sprint(i))
		put(t, c, name(i), "k", fmt.Sprint(i))
		if i%100 == 50 {
			wantCommit(t, c)
		}
	}
	wantAll(t, "500 names", c, s)
	wantCommit(t, c)
	wantLasts(t, "500 names", c, d, s)
	for i := 0; i < 500; i += 3 {
		wantClear(t, c, name(i), true)
		delete(s, name(i))
		put(t, c, name(i+1), "j", "x")
		s.put(name(i+1), "j", "x")
	}
	wantAll(t, "fewer names", c, s)
	wantCommit(t, c)
	wantLasts(t, "fewer names", c, d, s)
	for name := range s {
		wantClear(t, c, name, true)
	}
	wantNames(t, c)
	wantCommit(t, c)
	wantLasts(t, "no names", c, d, shelf{})
}

// Most trees that a disk has room for: one page each.
func TestAsManyNamesAsThereIsRoomFor(t *testing.T) {
	c, d := fresh(t, 200)
	s := shelf{}
	var e api.Errno
	for i := 0; e == api.OK && i < 300; i++ {
		s.put(fmt.Sprint(i), "k", "1")
		put(t, c, fmt.Sprint(i), "k", "1")
		e = c.Commit()
		if e != api.OK {
			delete(s, fmt.Sprint(i))
		}
	}
	wantErr(t, "Commit", e, api.ErrRoom)
	wantLasts(t, "full", c, d, s)
	if len(s) < 100 {
		t.Errorf("just %d trees stand on 200 pages", len(s))
	}
	wantClear(t, c, "0", true)
	wantCommit(t, c)
	delete(s, "0")
	wantLasts(t, "less full", c, d, s)
}

// P11.2: Changed

func TestChanged(t *testing.T) {
	c, d := fresh(t, 30)
	did := func(what string, want bool) {
		t.Helper()
		wantChanged(t, what, c, want)
	}
	did("opened", false)
	wantDrop(t, c, "x", "a", false)
	did("a drop of none", false)
	wantClear(t, c, "x", false)
	did("a clear of none", false)
	wantErr(t, "Put", c.Put("x", "", "1"), api.ErrArg)
	did("a put that is refused", false)
	c.Get("x", "a")
	c.From("x", "", 1)
	c.Names()
	c.Pages()
	c.Copy()
	did("what asks", false)
	put(t, c, "x", "a", "1")
	did("a put", true)
	wantErr(t, "Put", c.Put("x", "", "1"), api.ErrArg)
	wantDrop(t, c, "y", "a", false)
	wantClear(t, c, "y", false)
	c.Names()
	c.Pages()
	did("behind a put", true)
	wantCommit(t, c)
	did("a commit", false)
	wantCommit(t, c)
	did("a commit of nothing", false)
	put(t, c, "x", "a", "1")
	did("the same value once more", true)
	wantAbort(t, c)
	did("an abort", false)
	wantAbort(t, c)
	did("an abort of nothing", false)
	wantDrop(t, c, "x", "a", true)
	did("a drop", true)
	wantAbort(t, c)
	wantClear(t, c, "x", true)
	did("a clear", true)
	wantAbort(t, c)
	put(t, c, "y", "a", "1")
	wantDrop(t, c, "y", "a", true)
	did("a put and a drop", true)
	wantCommit(t, c)
	did("a commit of them", false)
	put(t, c, "y", "a", "1")
	wantClear(t, c, "y", true)
	did("a put and a clear", true)
	wantAbort(t, c)
	put(t, c, "x", "b", "1")
	wantErr(t, "Put", c.Put("x", "c", text(api.MaxValue)), api.OK)
	wantErr(t, "Put", c.Put("x", "d", text(api.MaxValue)), api.ErrRoom)
	did("a put that is refused for room", false)
	wantLasts(t, "a put that is refused for room", c, d, shelf{"x": {"a": "1"}})
	put(t, c, "x", "b", "1")
	d.Arm(api.ArmFail, 0)
	wantErr(t, "Commit", c.Commit(), api.ErrFault)
	did("a commit that is refused", false)
	wantLasts(t, "a commit that is refused", c, d, shelf{"x": {"a": "1"}})
}

// P11.2: Commit, Abort, Meta

func TestMeta(t *testing.T) {
	c, d := fresh(t, 40)
	was := c.Meta()
	stocked(t, c, few())
	if c.Meta() != was || was != (api.Meta{Txid: 1, High: 2}) {
		t.Errorf("Meta of a transaction: %v", c.Meta())
	}
	wantAbort(t, c)
	if c.Meta() != was {
		t.Errorf("Meta behind an abort: %v", c.Meta())
	}
	stocked(t, c, few())
	wantCommit(t, c)
	p, _ := pager.Open(d.Copy())
	if c.Meta() != p.Meta() || c.Meta().Txid != 2 {
		t.Errorf("Meta behind a commit: %v, want %v", c.Meta(), p.Meta())
	}
	was = c.Meta()
	wantCommit(t, c)
	if now := c.Meta(); now.Txid != 3 || now.Root != was.Root {
		t.Errorf("Meta behind a commit of nothing: %v, it was %v", now, was)
	}
}

// Roots stand in the catalog's own tree, in four bytes, and only of trees in which something stands.
func TestOwnTree(t *testing.T) {
	c, d := fresh(t, 20)
	put(t, c, "y", "a", "1")       // 2
	put(t, c, "x", "a", "1")       // 3
	put(t, c, "y", "b", text(61))  // its chain is 4, the leaf 5; 2 is free
	put(t, c, "z", "a", "1")       // 2
	wantDrop(t, c, "z", "a", true) // 2 is free
	wantCommit(t, c)               // the own tree's leaf is 2 with x, then 6 with y; 2 is the free list's
	want := api.Meta{Txid: 2, Root: 6, Free: 2, High: 7}
	if c.Meta() != want {
		t.Fatalf("Meta: %v, want %v", c.Meta(), want)
	}
	b, _ := d.Read(6)
	// Behind the head of 24 bytes stand the cells.
	if at := strings.Index(string(b[24:]), "x"); at < 0 || !strings.Contains(string(b[24+at:]), "\x00\x00\x00\x03") || !strings.Contains(string(b[24+at:]), "\x00\x00\x00\x05") {
		t.Errorf("the own tree's leaf: %q", b[24:])
	}
	if strings.Contains(string(b[24:]), "z") {
		t.Errorf("the own tree has a name of which nothing stands: %q", b[24:])
	}
	if pages, list, free, e := c.Pages(); !slices.Equal(pages, []int64{3, 4, 5, 6}) || !slices.Equal(list, []int64{2}) || len(free) > 0 || e != api.OK {
		t.Errorf("Pages: %v %v %v %v", pages, list, free, e)
	}
}

// Roots are laid by names: the last one that is laid stands in the page that is the root.
func TestRootsAreLaidByNames(t *testing.T) {
	for _, order := range []string{"xyz", "zyx", "yzx"} {
		c, d := fresh(t, 40)
		for _, name := range order {
			put(t, c, string(name), "a", "1")
		}
		m := tell(t, d.Copy())
		for _, name := range order {
			m.put(string(name), "a", "1")
		}
		wantCommit(t, c)
		wantErr(t, "Commit", m.commit(), api.OK)
		wantTold(t, order, c, m)
	}
}

// P11.4: Pages

func TestPages(t *testing.T) {
	c, d := fresh(t, 200)
	wantPages(t, "opened", c)
	s := few()
	for i := range 60 {
		s.put("big", fmt.Sprint(i), text(i*11%300))
	}
	stocked(t, c, s)
	if pages, list, free, e := c.Pages(); len(pages)+len(list)+len(free) != 0 || e != api.OK {
		t.Errorf("Pages of a transaction: %v %v %v %v", pages, list, free, e)
	}
	wantCommit(t, c)
	wantPages(t, "a commit", c)
	pages, list, free, _ := c.Pages()
	wantSamePages := func(what string, c *catalog.Catalog) {
		t.Helper()
		a, b, f, e := c.Pages()
		if !slices.Equal(a, pages) || !slices.Equal(b, list) || !slices.Equal(f, free) || e != api.OK {
			t.Errorf("%s: Pages: %v %v %v %v, want %v %v %v", what, a, b, f, e, pages, list, free)
		}
		wantPages(t, what, c)
	}
	wantClear(t, c, "big", true)
	wantSamePages("a tree is cleared", c)
	wantClear(t, c, "x", true)
	wantClear(t, c, "y", true)
	wantClear(t, c, "z", true)
	wantSamePages("all trees are cleared", c)
	for i := range 30 {
		put(t, c, "new", fmt.Sprint(i), text(50))
	}
	wantSamePages("another tree", c)
	wantSamePages("a copy", c.Copy())
	wantAbort(t, c)
	wantSamePages("an abort", c)
	wantSamePages("opened anew", opened(t, d.Copy()))
	wantDrop(t, c, "big", "7", true)
	wantCommit(t, c)
	wantPages(t, "another commit", c)
	put(t, c, "big", "7", "x")
	d.Arm(api.ArmFail, 2)
	wantErr(t, "Commit", c.Commit(), api.ErrFault)
	wantPages(t, "a commit that is refused", c)
}

// A free list may have several pages.
func TestPagesOfALongFreeList(t *testing.T) {
	c, _ := fresh(t, 800)
	for i := range 200 {
		put(t, c, "x", fmt.Sprint(1000+i), text(300))
		if i == 90 {
			wantCommit(t, c)
		}
	}
	wantCommit(t, c)
	put(t, c, "y", "a", "1")
	wantClear(t, c, "x", true)
	wantCommit(t, c)
	wantPages(t, "a long free list", c)
	if _, list, _, _ := c.Pages(); len(list) < 3 || !slices.IsSorted(list) {
		t.Errorf("the free list: %v", list)
	}
}

// A free list's pages need not rise; they are told rising.
func TestPagesOfAListThatFalls(t *testing.T) {
	d := freshDisk(t, 80)
	free := []int64{}
	for n := int64(2); n < 70; n++ {
		if n != 3 && n != 40 {
			free = append(free, n)
		}
	}
	lay := func(n, next int64, numbers []int64) {
		body := []byte{}
		for _, one := range numbers {
			body = binary.BigEndian.AppendUint32(body, uint32(one))
		}
		b, _ := page.Raw(n, api.Page{Kind: api.PageFree, Txid: 2, Next: next, Body: body})
		d.Write(int(n), b)
	}
	lay(40, 3, free[:58])
	lay(3, 0, free[58:])
	b, _ := meta.Raw(api.Meta{Txid: 2, Free: 40, High: 70})
	d.Write(0, b)
	d.Flush()
	c := opened(t, d)
	wantPages(t, "a list that falls", c)
	if _, list, _, e := c.Pages(); !slices.Equal(list, []int64{3, 40}) || e != api.OK {
		t.Errorf("the free list: %v %v", list, e)
	}
	put(t, c, "x", "a", "1")
	wantCommit(t, c)
	wantLasts(t, "a list that falls", c, d, shelf{"x": {"a": "1"}})
}

// P11.2: Copy

func TestCopyGoesOnApart(t *testing.T) {
	c, d := fresh(t, 60)
	stocked(t, c, few())
	wantCommit(t, c)
	put(t, c, "x", "a", "3")
	put(t, c, "w", "a", "4")
	wantClear(t, c, "z", true)
	s := few()
	s.put("x", "a", "3")
	s.put("w", "a", "4")
	delete(s, "z")
	o, twin := c.Copy(), c.Copy()
	wantSameCatalog(t, "a copy", o, c)
	wantChanged(t, "a copy", o, true)
	wantAll(t, "a copy", o, s)
	put(t, c, "x", "c", "5")
	wantCommit(t, c)
	wantSameCatalog(t, "behind a commit of the first one", o, twin)
	was := d.Copy()
	wantCommit(t, o)
	wantAll(t, "a copy", o, s)
	wantPages(t, "a copy", o)
	if !disk.Same(d, was) {
		t.Errorf("a copy's commit writes to the first one's disk")
	}
	s.put("x", "c", "5")
	wantLasts(t, "the first one", c, d, s)
	wantAbort(t, twin)
	wantAll(t, "a copy that is aborted", twin, few())
	wantDrop(t, twin, "y", "a", true)
	wantAll(t, "the first one", c, s)
	other := c.Copy()
	wantAbort(t, c)
	wantClear(t, c, "x", true)
	wantChanged(t, "a copy", other, false)
	wantAll(t, "a copy", other, s)
}

func TestCopyOfAnArmedDisk(t *testing.T) {
	c, d := fresh(t, 40)
	put(t, c, "x", "a", "1")
	d.Arm(api.ArmFail, 0)
	o := c.Copy()
	wantErr(t, "Commit of a copy", o.Commit(), api.ErrFault)
	wantErr(t, "Commit", c.Commit(), api.ErrFault)
	wantAll(t, "a copy", o, shelf{})
}

// What is handed out is kept apart

func TestAnswersAreNewMemory(t *testing.T) {
	c, d := fresh(t, 200)
	s := few()
	for i := range 60 {
		s.put("big", fmt.Sprint(i), text(i*11%300))
	}
	stocked(t, c, s)
	wantCommit(t, c)
	wantClear(t, c, "big", true)
	wantCommit(t, c)
	delete(s, "big")
	was := c.Copy()
	spoil := func() (int, int) {
		names, _ := c.Names()
		pairs, _ := c.From("x", "", 10)
		pages, list, free, _ := c.Pages()
		for i := range names {
			names[i] = "spoilt"
		}
		for i := range pairs {
			pairs[i] = api.Pair{Key: "spoilt"}
		}
		for _, l := range [][]int64{pages, list, free} {
			for i := range l {
				l[i] = -1
			}
			l = append(l, -2)
			_ = l
		}
		m := c.Meta()
		m.Root = 99
		return len(names) + len(pairs), len(pages) + len(list) + len(free)
	}
	for range 2 {
		if a, b := spoil(); a != 5 || b != int(c.Meta().High)-2 {
			t.Errorf("%d names and pairs, %d pages", a, b)
		}
		wantSameCatalog(t, "answers that are spoilt", c, was)
		wantPages(t, "answers that are spoilt", c)
		put(t, c, "x", "a", "1")
		was = c.Copy()
	}
	wantAbort(t, c)
	wantLasts(t, "answers that are spoilt", c, d, s)
}

// No catalog, one that was not opened, one that is broken

func TestNoCatalog(t *testing.T) {
	for what, c := range map[string]*catalog.Catalog{"none": nil, "one that was not opened": {}} {
		wantNothing(t, what, c, api.ErrNil)
		if c.Meta() != (api.Meta{}) || c.Broken() || c.Copy() != nil {
			t.Errorf("%s: %v %v %v", what, c.Meta(), c.Broken(), c.Copy())
		}
	}
}

// breaks breaks a catalog in whose transaction something is: its commit is stopped behind the meta.
func breaks(t *testing.T, c *catalog.Catalog, d *disk.Disk) {
	t.Helper()
	for steps := range 100 {
		d.Arm(api.ArmStop, steps)
		o := c.Copy()
		d.Arm(api.ArmNone, -1)
		if o.Commit() == api.ErrDead && o.Broken() {
			d.Arm(api.ArmStop, steps)
			wantErr(t, "Commit", c.Commit(), api.ErrDead)
			break
		}
	}
	if !c.Broken() {
		t.Fatalf("it does not break")
	}
}

func TestBroken(t *testing.T) {
	c, d := fresh(t, 60)
	stocked(t, c, few())
	wantCommit(t, c)
	m := c.Meta()
	put(t, c, "x", "a", "3")
	if c.Broken() {
		t.Errorf("it is broken ahead")
	}
	breaks(t, c, d)
	for _, one := range []*catalog.Catalog{c, c.Copy()} {
		wantNothing(t, "a broken one", one, api.ErrBroken)
		if one.Meta() != m || !one.Broken() || one.Copy() == nil {
			t.Errorf("a broken one: %v %v, want %v", one.Meta(), one.Broken(), m)
		}
	}
	after := few()
	after.put("x", "a", "3")
	seen := map[int64]int{}
	for picks := range 16 {
		x, _ := d.Crash(picks&1, picks>>1&1, picks>>2&1, picks>>3&1)
		o := opened(t, x)
		seen[o.Meta().Txid]++
		want := few()
		if o.Meta().Txid != m.Txid {
			want = after
		}
		wantLasts(t, "behind a crash of a broken one", o, x, want)
	}
	if seen[m.Txid] == 0 || seen[m.Txid+1] == 0 || len(seen) != 2 {
		t.Errorf("crashes of a broken one leave %v", seen)
	}
}

// The order of the errors

func TestOrderOfErrors(t *testing.T) {
	c, d := fresh(t, 20)
	put(t, c, "x", "a", text(500))
	wantCommit(t, c)
	put(t, c, "y", "a", text(500))
	put(t, c, "y", "b", text(300))
	wantWrong(t, c, "x", "", text(5000), 0, "Get", "Put", "Drop")
	wantWrong(t, c, "x", long("a", 49), text(4096), 0, "Get", "Put", "Drop", "From")
	wantWrong(t, c, "", "a", text(4096), 0, "Get", "Put", "Drop", "From", "Clear")
	d.Arm(api.ArmStop, 0)
	wantErr(t, "Put for room, of a disk that is to be dead", c.Put("x", "b", text(4096)), api.ErrRoom)
	wantChanged(t, "refused for room", c, false)
	put(t, c, "x", "b", "1")
	wantErr(t, "Commit", c.Commit(), api.ErrDead)
	if c.Broken() || !d.Dead() {
		t.Errorf("broken %v, dead %v", c.Broken(), d.Dead())
	}
	wantAll(t, "of a dead disk", c, shelf{"x": {"a": text(500)}})
	wantPages(t, "of a dead disk", c)
	put(t, c, "x", "b", "1")
	wantErr(t, "Commit", c.Commit(), api.ErrDead)
	wantErr(t, "Abort", c.Abort(), api.OK)
	wantErr(t, "Make", catalog.Make(d), api.ErrDead)
	put(t, c, "y", "a", text(500))
	wantErr(t, "Put", c.Put("y", "", text(4096)), api.ErrArg)
	wantErr(t, "Put", c.Put("y", "b", text(4096)), api.ErrRoom)
}

// The chapter's examples

func TestExamples(t *testing.T) {
	c, d := fresh(t, 20)
	put(t, c, "x", "a", "1")
	put(t, c, "y", "a", "2")
	wantValue(t, c, "x", "a", "1")
	wantNames(t, c, "x", "y")
	wantCommit(t, c)
	wantDrop(t, c, "x", "a", true)
	wantNames(t, c, "y")
	wantAbort(t, c)
	wantNames(t, c, "x", "y")
	wantNone(t, c, "z", "a")
	wantLasts(t, "the examples", c, d, shelf{"x": {"a": "1"}, "y": {"a": "2"}})
}
