package pager_test

import (
	"bytes"
	"encoding/binary"
	"fmt"
	"math"
	"slices"
	"testing"

	"pigeonry/api"
	"pigeonry/crc"
	"pigeonry/disk"
	"pigeonry/meta"
	"pigeonry/page"
	"pigeonry/pager"
	"pigeonry/space"
)

func wantErr(t *testing.T, what string, got, want api.Errno) {
	t.Helper()
	if got != want {
		t.Errorf("%s: %v, want %v", what, got, want)
	}
}

func freshDisk(t *testing.T, pages int) *disk.Disk {
	t.Helper()
	d, e := disk.New(pages)
	if e != api.OK {
		t.Fatalf("New(%d): %v", pages, e)
	}
	return d
}

// made tells a disk that holds a store in which nothing stands.
func made(t *testing.T, pages int) *disk.Disk {
	t.Helper()
	d := freshDisk(t, pages)
	if e := pager.Make(d); e != api.OK {
		t.Fatalf("Make of %d pages: %v", pages, e)
	}
	return d
}

func opened(t *testing.T, d *disk.Disk) *pager.Pager {
	t.Helper()
	p, e := pager.Open(d)
	if e != api.OK || p == nil {
		t.Fatalf("Open: %v %v", p, e)
	}
	return p
}

func fresh(t *testing.T, pages int) (*pager.Pager, *disk.Disk) {
	t.Helper()
	d := made(t, pages)
	return opened(t, d), d
}

// lay writes bytes to a disk, so that they last.
func lay(t *testing.T, d *disk.Disk, number int64, b []byte) {
	t.Helper()
	if e := d.Write(int(number), b); e != api.OK {
		t.Fatalf("the disk's Write(%d): %v", number, e)
	}
	if e := d.Flush(); e != api.OK {
		t.Fatalf("the disk's Flush: %v", e)
	}
}

func leaf(body string) api.Page { return api.Page{Kind: api.PageLeaf, Body: []byte(body)} }

func at(p api.Page, txid int64) api.Page {
	p.Txid = txid
	return p
}

func wantWrite(t *testing.T, p *pager.Pager, body string, want int64) {
	t.Helper()
	if number, e := p.Write(api.PageLeaf, 0, []byte(body)); number != want || e != api.OK {
		t.Errorf("Write(%s): %d %v, want %d", body, number, e, want)
	}
}

func wantNoWrite(t *testing.T, p *pager.Pager, k api.PageKind, next int64, body []byte, want api.Errno) {
	t.Helper()
	if number, e := p.Write(k, next, body); number != 0 || e != want {
		t.Errorf("Write(%v, %d, %d bytes): %d %v, want 0 %v", k, next, len(body), number, e, want)
	}
}

func wantRead(t *testing.T, p *pager.Pager, number int64, want api.Page) {
	t.Helper()
	if got, e := p.Read(number); !page.Same(got, want) || e != api.OK {
		t.Errorf("Read(%d): %v %v, want %v", number, got, e, want)
	}
}

func wantNoRead(t *testing.T, p *pager.Pager, number int64, want api.Errno) {
	t.Helper()
	if got, e := p.Read(number); got.Kind != 0 || got.Txid != 0 || got.Next != 0 || got.Body != nil || e != want {
		t.Errorf("Read(%d): %v %v, want %v", number, got, e, want)
	}
}

func wantDrop(t *testing.T, p *pager.Pager, number int64, want api.Errno) {
	t.Helper()
	wantErr(t, fmt.Sprintf("Drop(%d)", number), p.Drop(number), want)
}

func wantCommit(t *testing.T, p *pager.Pager, root int64, want api.Errno) {
	t.Helper()
	wantErr(t, fmt.Sprintf("Commit(%d)", root), p.Commit(root), want)
}

func wantArm(t *testing.T, d *disk.Disk, kind api.Arm, steps int) {
	t.Helper()
	wantErr(t, "Arm", d.Arm(kind, steps), api.OK)
}

func wantMeta(t *testing.T, p *pager.Pager, want api.Meta) {
	t.Helper()
	if got := p.Meta(); got != want {
		t.Errorf("Meta: %v, want %v", got, want)
	}
}

func wantList(t *testing.T, what string, got []int64, want ...int64) {
	t.Helper()
	if !slices.Equal(got, want) {
		t.Errorf("%s: %v, want %v", what, got, want)
	}
}

func wantUnder(t *testing.T, p *pager.Pager, want int) {
	t.Helper()
	if got := p.Under(); got != want {
		t.Errorf("Under: %d, want %d", got, want)
	}
}

// wantIs asks what the pages from 2 on are, a letter each: k, n, h, f; and that none is behind them.
func wantIs(t *testing.T, p *pager.Pager, want string) {
	t.Helper()
	letters := map[api.Place]byte{api.PlaceKept: 'k', api.PlaceNew: 'n', api.PlaceHeld: 'h', api.PlaceFree: 'f'}
	var got []byte
	for number := int64(2); number < p.Space().High(); number++ {
		got = append(got, letters[p.Space().Is(number)])
	}
	if string(got) != want {
		t.Errorf("the space: %s, want %s", got, want)
	}
}

func wantSameDisk(t *testing.T, what string, a, b *disk.Disk, want bool) {
	t.Helper()
	if disk.Same(a, b) != want {
		t.Errorf("%s: the same disk: %v, want %v", what, !want, want)
	}
}

// mixed tells a pager of a disk of 12 pages: 2 (the root) and 3 are kept, 4 is new, 5 held, 6 free, and 7 is the free list's, which tells 4 and 6.
func mixed(t *testing.T) (*pager.Pager, *disk.Disk) {
	t.Helper()
	p, d := fresh(t, 12)
	for _, body := range []string{"two", "three", "four", "five", "six"} {
		p.Write(api.PageLeaf, 0, []byte(body))
	}
	wantCommit(t, p, 2, api.OK)
	wantDrop(t, p, 4, api.OK)
	wantDrop(t, p, 6, api.OK)
	wantCommit(t, p, 2, api.OK)
	wantWrite(t, p, "new", 4)
	wantDrop(t, p, 5, api.OK)
	wantIs(t, p, "kknhfk")
	wantMeta(t, p, api.Meta{Txid: 3, Root: 2, Free: 7, High: 8})
	return p, d
}

// P8.1: Make

func TestMake(t *testing.T) {
	for _, pages := range []int{2, 3, 8, api.MaxPages} {
		d := freshDisk(t, pages)
		wantErr(t, "Make", pager.Make(d), api.OK)
		if d.Waits() != 0 || d.Steps() != 3 {
			t.Errorf("Make of %d pages: %d wait behind %d steps", pages, d.Waits(), d.Steps())
		}
		want := freshDisk(t, pages)
		for number, b := range meta.First() {
			lay(t, want, int64(number), b)
		}
		wantSameDisk(t, "Make", d, want, true)
		p := opened(t, d)
		wantMeta(t, p, api.Meta{Txid: 1, High: 2})
		wantList(t, "List", p.List())
		wantIs(t, p, "")
		wantNoRead(t, p, 2, api.ErrKept)
	}
}

func TestMakeOfNoDisk(t *testing.T) {
	wantErr(t, "Make of nil", pager.Make(nil), api.ErrNil)
	wantErr(t, "Make of a zero one", pager.Make(&disk.Disk{}), api.ErrNil)
	d, _ := disk.New(1)
	wantErr(t, "Make of one of too few pages", pager.Make(d), api.ErrNil)
}

func TestMakeRefused(t *testing.T) {
	for kind, want := range map[api.Arm]api.Errno{api.ArmStop: api.ErrDead, api.ArmFail: api.ErrFault} {
		for steps := range 3 {
			d := freshDisk(t, 4)
			wantArm(t, d, kind, steps)
			wantErr(t, fmt.Sprintf("Make, refused at %d", steps), pager.Make(d), want)
			if d.Steps() != int64(steps) || d.Waits() != steps {
				t.Errorf("Make, refused at %d: %d wait behind %d steps", steps, d.Waits(), d.Steps())
			}
			for number, first := range meta.First() {
				b, _ := d.Read(number)
				if bytes.Equal(b, first) != (number < steps) {
					t.Errorf("Make, refused at %d: page %d: %x", steps, number, b)
				}
			}
			if kind == api.ArmFail {
				wantErr(t, "Make behind that", pager.Make(d), api.OK)
				wantMeta(t, opened(t, d), api.Meta{Txid: 1, High: 2})
			}
		}
		d := freshDisk(t, 4)
		wantArm(t, d, kind, 3)
		wantErr(t, "Make, armed behind its steps", pager.Make(d), api.OK)
	}
}

func TestMakeThatACrashEnds(t *testing.T) {
	seen := map[api.Meta]int{}
	for steps := range 4 {
		d := freshDisk(t, 4)
		wantArm(t, d, api.ArmStop, steps)
		pager.Make(d)
		crashes(d, d.Waits(), func(c *disk.Disk) {
			p, e := pager.Open(c)
			if e != api.OK && (p != nil || e != api.ErrMeta) {
				t.Errorf("Make, stopped at %d: Open: %v %v", steps, p, e)
			}
			seen[p.Meta()]++
		})
	}
	if len(seen) != 3 || seen[api.Meta{}] == 0 || seen[api.Meta{High: 2}] == 0 || seen[api.Meta{Txid: 1, High: 2}] == 0 {
		t.Errorf("what a crash leaves of Make: %v", seen)
	}
}

func TestMakeAnew(t *testing.T) {
	p, d := mixed(t)
	wantCommit(t, p, 4, api.OK)
	wantErr(t, "Make", pager.Make(d), api.OK)
	p = opened(t, d)
	wantMeta(t, p, api.Meta{Txid: 1, High: 2})
	wantIs(t, p, "")
	wantNoRead(t, p, 2, api.ErrKept)
	wantWrite(t, p, "anew", 2)
}

// P8.1: Open

func wantNoOpen(t *testing.T, what string, d *disk.Disk, want api.Errno) {
	t.Helper()
	if p, e := pager.Open(d); p != nil || e != want {
		t.Errorf("Open of %s: %v %v, want %v", what, p, e, want)
	}
}

func TestOpenOfNoDisk(t *testing.T) {
	wantNoOpen(t, "nil", nil, api.ErrNil)
	wantNoOpen(t, "a zero one", &disk.Disk{}, api.ErrNil)
}

func TestOpenOfMetas(t *testing.T) {
	even, odd := rawMeta(api.Meta{Txid: 6, High: 4, Root: 2}), rawMeta(api.Meta{Txid: 7, High: 5, Root: 3})
	turned := bytes.Clone(odd)
	turned[30] ^= 4
	none := make([]byte, api.PageSize)
	other := rawPage(1, api.Page{Kind: api.PageLeaf, Txid: 9})
	for _, c := range []struct {
		what        string
		first, next []byte
		txid        int64
	}{
		{"noughts", none, none, 0},
		{"both metas at the other's number", odd, even, 0},
		{"another page", none, other, 0},
		{"a turned one", none, turned, 0},
		{"both", even, odd, 7},
		{"the first one", even, none, 6},
		{"the first one, and a turned one", even, turned, 6},
		{"the first one, and another page", even, other, 6},
		{"the second one", none, odd, 7},
		{"the second one twice", odd, odd, 7},
	} {
		d := freshDisk(t, 5)
		lay(t, d, 0, c.first)
		lay(t, d, 1, c.next)
		if c.txid == 0 {
			wantNoOpen(t, c.what, d, api.ErrMeta)
			continue
		}
		if p := opened(t, d); p.Meta().Txid != c.txid || p.Space().High() != c.txid-2 {
			t.Errorf("Open of %s: %v", c.what, p.Meta())
		}
	}
}

func TestOpenOfLessRoom(t *testing.T) {
	for high, want := range map[int64]api.Errno{2: api.OK, 5: api.OK, 6: api.OK, 7: api.ErrStore, 100: api.ErrStore, api.MaxPages: api.ErrStore} {
		d := freshDisk(t, 6)
		lay(t, d, 0, rawMeta(api.Meta{Txid: 4, High: high}))
		if p, e := pager.Open(d); e != want || (p != nil) != (want == api.OK) {
			t.Errorf("Open of High %d, room 6: %v %v, want %v", high, p, e, want)
		}
	}
	d := freshDisk(t, 6)
	lay(t, d, 0, rawMeta(api.Meta{Txid: 4, High: 7}))
	lay(t, d, 1, rawMeta(api.Meta{Txid: 3, High: 5}))
	wantNoOpen(t, "one of less room, whose elder meta would do", d, api.ErrStore)
}

// listPage is a page of a free list.
type listPage struct {
	number, next int64
	body         []byte
}

// from tells so many numbers from one on.
func from(first, many int64) []int64 {
	var all []int64
	for n := range many {
		all = append(all, first+n)
	}
	return all
}

// listed tells a disk of 300 pages, of High 200, with such a free list from its first page on.
func listed(t *testing.T, pages ...listPage) *disk.Disk {
	t.Helper()
	d := freshDisk(t, 300)
	lay(t, d, 1, rawMeta(api.Meta{Txid: 3, Free: pages[0].number, High: 200}))
	for _, p := range pages {
		lay(t, d, p.number, rawPage(p.number, api.Page{Kind: api.PageFree, Txid: 3, Next: p.next, Body: p.body}))
	}
	return d
}

func TestOpenOfLists(t *testing.T) {
	for _, c := range []struct {
		what  string
		pages []listPage
		list  []int64
		free  []int64
	}{
		{"one that tells nothing", []listPage{{number: 9}}, []int64{9}, nil},
		{"one that tells all that may be", []listPage{{9, 0, bodyOf(2, 8, 10, 199)}}, []int64{9}, []int64{2, 8, 10, 199}},
		{"the first page of all", []listPage{{2, 0, bodyOf(3)}}, []int64{2}, []int64{3}},
		{"the last page below High", []listPage{{199, 0, bodyOf(198)}}, []int64{199}, []int64{198}},
		{"58 numbers", []listPage{{100, 0, bodyOf(from(2, 58)...)}}, []int64{100}, from(2, 58)},
		{"59 numbers", []listPage{{100, 99, bodyOf(from(2, 58)...)}, {99, 0, bodyOf(60)}}, []int64{100, 99}, from(2, 59)},
		{"58 numbers, and a page that tells nothing", []listPage{{100, 99, bodyOf(from(2, 58)...)}, {number: 99}}, []int64{100, 99}, from(2, 58)},
		{"three pages", []listPage{{198, 3, bodyOf(from(4, 58)...)}, {3, 2, bodyOf(from(62, 58)...)}, {2, 0, bodyOf(130, 197)}}, []int64{198, 3, 2}, append(from(4, 116), 130, 197)},
	} {
		d := listed(t, c.pages...)
		was := d.Copy()
		p := opened(t, d)
		wantList(t, c.what+": List", p.List(), c.list...)
		wantList(t, c.what+": free", p.Space().Free(), c.free...)
		if s, _ := space.New(300, 200, c.free...); !space.Same(p.Space(), s) {
			t.Errorf("%s: another space", c.what)
		}
		wantSameDisk(t, c.what+": Open does nothing to the disk", d, was, true)
		wantUnder(t, p, 0)
	}
}

func TestOpenOfNoLists(t *testing.T) {
	full := bodyOf(from(2, 58)...)
	for _, c := range []struct {
		what  string
		pages []listPage
	}{
		{"one that leads to itself", []listPage{{9, 9, bodyOf(from(20, 58)...)}}},
		{"one that leads to itself and tells nothing", []listPage{{9, 9, nil}}},
		{"one that goes round", []listPage{{100, 99, full}, {99, 100, bodyOf(from(110, 58)...)}}},
		{"one that goes round behind its first page", []listPage{{100, 99, full}, {99, 98, bodyOf(from(101, 58)...)}, {98, 99, bodyOf(from(160, 20)...)}}},
		{"one whose numbers fall", []listPage{{9, 0, bodyOf(3, 2)}}},
		{"one that tells a number twice", []listPage{{9, 0, bodyOf(3, 3)}}},
		{"one whose numbers fall from page to page", []listPage{{100, 99, bodyOf(from(3, 58)...)}, {99, 0, bodyOf(2)}}},
		{"one that tells a number twice, on two pages", []listPage{{100, 99, full}, {99, 0, bodyOf(59)}}},
		{"one whose first page is not full", []listPage{{100, 99, bodyOf(from(2, 57)...)}, {99, 0, bodyOf(60)}}},
		{"one whose first page tells nothing", []listPage{{100, 99, nil}, {99, 0, bodyOf(60)}}},
		{"one whose first page tells nothing, nor does the second", []listPage{{100, 99, nil}, {99, 0, nil}}},
		{"one whose second page is not full", []listPage{{100, 99, full}, {99, 98, bodyOf(60, 61)}, {98, 0, bodyOf(62)}}},
		{"one that names its page", []listPage{{9, 0, bodyOf(3, 9, 10)}}},
		{"one that names its second page", []listPage{{100, 50, bodyOf(from(2, 58)...)}, {50, 0, bodyOf(60)}}},
		{"one that names its first page on the second", []listPage{{70, 71, full}, {71, 0, bodyOf(60, 70)}}},
		{"one that names page 0", []listPage{{9, 0, bodyOf(0, 3)}}},
		{"one that names page 1", []listPage{{9, 0, bodyOf(1, 3)}}},
		{"one that names High", []listPage{{9, 0, bodyOf(3, 200)}}},
		{"one that names a huge page", []listPage{{9, 0, bodyOf(3, 1<<32-1)}}},
		{"one byte", []listPage{{9, 0, []byte{0}}}},
		{"three bytes behind a number", []listPage{{9, 0, bodyOf(3, 4)[:7]}}},
		{"one byte behind a number", []listPage{{9, 0, append(bodyOf(3), 0)}}},
		{"a full page, and one byte less", []listPage{{100, 0, full[:231]}}},
		{"one that leads to page 1", []listPage{{100, 1, full}}},
		{"one that leads beyond the room", []listPage{{100, 300, full}}},
		{"one that leads to the last page that may be", []listPage{{100, api.MaxPages - 1, full}}},
		{"one that leads to what was never written", []listPage{{100, 99, full}}},
		{"one that leads to High", []listPage{{100, 200, full}, {200, 0, bodyOf(60)}}},
		{"one that leads above High", []listPage{{100, 299, full}, {299, 0, nil}}},
	} {
		wantNoOpen(t, c.what, listed(t, c.pages...), api.ErrStore)
	}
}

func TestOpenOfAListOfOtherPages(t *testing.T) {
	good := []listPage{{100, 99, bodyOf(from(2, 58)...)}, {99, 0, bodyOf(60)}}
	for i, one := range good {
		number := one.number
		of := api.Page{Kind: api.PageFree, Txid: 3, Next: one.next, Body: one.body}
		for _, k := range []api.PageKind{api.PageMeta, api.PageLeaf, api.PageBranch, api.PageChain} {
			d := listed(t, good...)
			other := of
			other.Kind = k
			lay(t, d, number, rawPage(number, other))
			wantNoOpen(t, fmt.Sprintf("a list whose page %d is of the kind %d", i, k), d, api.ErrStore)
		}
		d := listed(t, good...)
		lay(t, d, number, rawPage(number+1, of))
		wantNoOpen(t, "a list of a page of another number", d, api.ErrStore)
		for _, at := range []int{0, 4, 5, 13, 17, 21, 23, 24, 27, 255} {
			d := listed(t, good...)
			b, _ := d.Read(int(number))
			b[at] ^= 1
			lay(t, d, number, b)
			wantNoOpen(t, fmt.Sprintf("a list of a page whose byte %d is turned", at), d, api.ErrStore)
		}
	}
}

func TestOpenOfAListOfTooManyNumbers(t *testing.T) {
	d := listed(t, listPage{100, 0, bodyOf(from(2, 58)...)})
	b, _ := d.Read(100)
	b[5] = 59 * 4
	binary.BigEndian.PutUint32(b, crc.Sum(b[4:]))
	lay(t, d, 100, b)
	wantNoOpen(t, "a page that says it tells 59 numbers", d, api.ErrStore)
}

func TestOpenTakesListsOfAnyTxid(t *testing.T) {
	for _, txid := range []int64{0, 3, 4, 1 << 62} {
		d := listed(t, listPage{9, 0, nil})
		lay(t, d, 9, rawPage(9, api.Page{Kind: api.PageFree, Txid: txid, Body: bodyOf(5)}))
		wantList(t, "free", opened(t, d).Space().Free(), 5)
	}
}

func TestOpenGoesOnWithTheDisk(t *testing.T) {
	p, d := fresh(t, 8)
	wantWrite(t, p, "a", 2)
	was := d.Copy()
	wantSameDisk(t, "nothing is written ahead of a commit", d, was, true)
	wantCommit(t, p, 2, api.OK)
	wantSameDisk(t, "behind a commit", d, p.Disk(), true)
	b, _ := d.Read(2)
	if got, e := page.Parse(2, b); e != api.OK || !page.Same(got, at(leaf("a"), 2)) {
		t.Errorf("page 2 of the disk: %v %v", got, e)
	}
	wantArm(t, d, api.ArmFail, 0)
	wantCommit(t, p, 2, api.ErrFault)
	lay(t, d, 2, rawPage(2, at(leaf("b"), 2)))
	wantRead(t, p, 2, at(leaf("b"), 2))
}

func TestOpenOfWhatWaits(t *testing.T) {
	d := freshDisk(t, 6)
	wantArm(t, d, api.ArmFail, 2)
	wantErr(t, "Make", pager.Make(d), api.ErrFault)
	p := opened(t, d)
	wantMeta(t, p, api.Meta{Txid: 1, High: 2})
	wantWrite(t, p, "a", 2)
	wantCommit(t, p, 2, api.OK)
	c, _ := d.Crash()
	wantRead(t, opened(t, c), 2, at(leaf("a"), 2))
}

// P8.1: Write

func TestWriteOfEachKind(t *testing.T) {
	p, _ := fresh(t, 12)
	next := int64(2)
	for k := api.PageKind(-2); k < 9; k++ {
		if k != api.PageLeaf && k != api.PageBranch && k != api.PageChain {
			wantNoWrite(t, p, k, 0, nil, api.ErrArg)
			continue
		}
		if number, e := p.Write(k, 7, []byte("of a kind")); number != next || e != api.OK {
			t.Errorf("Write of kind %d: %d %v", k, number, e)
		}
		wantRead(t, p, next, api.Page{Kind: k, Txid: 2, Next: 7, Body: []byte("of a kind")})
		next++
	}
	wantIs(t, p, "nnn")
	wantUnder(t, p, 3)
}

func TestWriteOfEachNext(t *testing.T) {
	p, _ := fresh(t, 12)
	for _, next := range []int64{math.MinInt64, -1 << 32, -1, api.MaxPages, api.MaxPages + 1, 1 << 32, 1<<32 + 2, math.MaxInt64} {
		wantNoWrite(t, p, api.PageChain, next, nil, api.ErrArg)
	}
	wantIs(t, p, "")
	for i, next := range []int64{0, 1, 2, 3, 11, 12, api.MaxPages - 1} {
		if number, e := p.Write(api.PageChain, next, nil); number != int64(i+2) || e != api.OK {
			t.Errorf("Write of Next %d: %d %v", next, number, e)
		}
		wantRead(t, p, int64(i+2), api.Page{Kind: api.PageChain, Txid: 2, Next: next})
	}
}

func TestWriteOfEachBody(t *testing.T) {
	p, _ := fresh(t, 12)
	for _, size := range []int{api.MaxRoom + 1, api.PageSize, 1 << 16} {
		wantNoWrite(t, p, api.PageLeaf, 0, make([]byte, size), api.ErrArg)
	}
	wantUnder(t, p, 0)
	for i, size := range []int{0, 1, 100, api.MaxRoom - 1, api.MaxRoom} {
		body := bytes.Repeat([]byte{byte(i + 1)}, size)
		wantWrite(t, p, string(body), int64(i+2))
		wantRead(t, p, int64(i+2), at(leaf(string(body)), 2))
	}
	wantCommit(t, p, 2, api.OK)
	wantRead(t, p, 6, at(leaf(string(bytes.Repeat([]byte{5}, api.MaxRoom))), 2))
}

func TestWriteOfNoRoom(t *testing.T) {
	p, _ := fresh(t, 4)
	wantWrite(t, p, "a", 2)
	wantWrite(t, p, "b", 3)
	for range 2 {
		wantNoWrite(t, p, api.PageLeaf, 0, nil, api.ErrRoom)
	}
	wantNoWrite(t, p, api.PageMeta, 0, nil, api.ErrArg)
	wantNoWrite(t, p, api.PageLeaf, 0, make([]byte, 233), api.ErrArg)
	wantUnder(t, p, 2)
	wantDrop(t, p, 2, api.OK)
	wantWrite(t, p, "c", 2)
	wantRead(t, p, 2, at(leaf("c"), 2))
	wantRead(t, p, 3, at(leaf("b"), 2))

	p, _ = fresh(t, 2)
	wantNoWrite(t, p, api.PageLeaf, 0, nil, api.ErrRoom)
	wantCommit(t, p, 0, api.OK)
	wantMeta(t, p, api.Meta{Txid: 2, High: 2})
}

func TestWriteHasTheNextTxid(t *testing.T) {
	p, _ := fresh(t, 12)
	for txid := int64(2); txid < 6; txid++ {
		wantWrite(t, p, "a", txid)
		wantRead(t, p, txid, at(leaf("a"), txid))
		wantCommit(t, p, txid, api.OK)
		wantRead(t, p, txid, at(leaf("a"), txid))
	}
	wantRead(t, p, 2, at(leaf("a"), 2))
}

func TestWriteAtTheLastTxid(t *testing.T) {
	d := freshDisk(t, 8)
	lay(t, d, 1, rawMeta(api.Meta{Txid: 1<<62 - 1, High: 3}))
	p := opened(t, d)
	wantWrite(t, p, "a", 3)
	wantRead(t, p, 3, at(leaf("a"), 1<<62))
	wantCommit(t, p, 3, api.OK)
	wantMeta(t, opened(t, d), api.Meta{Txid: 1 << 62, Root: 3, High: 4})
	wantRead(t, p, 3, at(leaf("a"), 1<<62))
	was := d.Copy()
	wantNoWrite(t, p, api.PageLeaf, 0, nil, api.ErrArg)
	wantArm(t, d, api.ArmFail, 0)
	wantCommit(t, p, 0, api.ErrArg)
	wantDrop(t, p, 3, api.OK)
	wantCommit(t, p, 0, api.ErrArg)
	wantArm(t, d, api.ArmNone, -1)
	wantIs(t, p, "kk")
	wantSameDisk(t, "a commit behind the last Txid", d, was, true)
	wantMeta(t, p, api.Meta{Txid: 1 << 62, Root: 3, High: 4})
}

func TestWriteKeepsNothingOfTheBody(t *testing.T) {
	p, _ := fresh(t, 8)
	room := []byte("body, and spare room")
	body := room[:4]
	p.Write(api.PageLeaf, 0, body)
	if string(room) != "body, and spare room" {
		t.Errorf("what was handed in: %s", room)
	}
	copy(room, "turned")
	wantRead(t, p, 2, at(leaf("body"), 2))
	wantCommit(t, p, 2, api.OK)
	wantRead(t, p, 2, at(leaf("body"), 2))
}

// P8.1: Read

func TestReadOfEach(t *testing.T) {
	p, _ := mixed(t)
	wantRead(t, p, 2, at(leaf("two"), 2))
	wantRead(t, p, 3, at(leaf("three"), 2))
	wantRead(t, p, 4, at(leaf("new"), 4))
	wantRead(t, p, 7, api.Page{Kind: api.PageFree, Txid: 3, Body: bodyOf(4, 6)})
	for _, number := range []int64{5, 6, 0, 1, 8, 9, 11, 12, -1, api.MaxPages, math.MinInt64, math.MaxInt64, 1<<32 + 2} {
		wantNoRead(t, p, number, api.ErrKept)
	}
}

func TestReadOfTurnedBytes(t *testing.T) {
	for _, at := range []int{0, 3, 4, 5, 13, 17, 23, 24, 255} {
		p, d := mixed(t)
		b, _ := d.Read(3)
		b[at] ^= 0x10
		lay(t, d, 3, b)
		wantNoRead(t, p, 3, api.ErrSum)
		wantRead(t, p, 2, api.Page{Kind: api.PageLeaf, Txid: 2, Body: []byte("two")})
	}
}

func TestReadOfOtherBytes(t *testing.T) {
	p, d := mixed(t)
	b, _ := d.Read(2)
	lay(t, d, 3, b)
	wantNoRead(t, p, 3, api.ErrPage)
	lay(t, d, 3, make([]byte, api.PageSize))
	wantNoRead(t, p, 3, api.ErrSum)
	b[4], b[16] = 9, 0
	binary.BigEndian.PutUint32(b, crc.Sum(b[4:]))
	lay(t, d, 2, b)
	wantNoRead(t, p, 2, api.ErrPage)
	lay(t, d, 4, b) // it is under way, so that the disk has no say in it
	wantRead(t, p, 4, at(leaf("new"), 4))
}

func TestReadIsNewMemory(t *testing.T) {
	p, _ := mixed(t)
	for number, body := range map[int64]string{2: "two", 4: "new"} {
		one, _ := p.Read(number)
		two, _ := p.Read(number)
		one.Body = append(one.Body, "and more"...)
		copy(one.Body, "turned")
		if string(two.Body) != body {
			t.Errorf("Read(%d): %s", number, two.Body)
		}
		if again, _ := p.Read(number); string(again.Body) != body {
			t.Errorf("Read(%d): %s", number, again.Body)
		}
	}
	wantCommit(t, p, 2, api.OK)
	wantRead(t, p, 4, at(leaf("new"), 4))
}

// P8.1: Drop

func TestDropOfEach(t *testing.T) {
	p, d := mixed(t)
	was := d.Copy()
	for _, number := range []int64{5, 6, 0, 1, 8, 9, 12, -1, api.MaxPages, math.MinInt64, math.MaxInt64, 1<<32 + 2} {
		wantDrop(t, p, number, api.ErrKept)
	}
	wantIs(t, p, "kknhfk")
	wantUnder(t, p, 1)
	for _, number := range []int64{4, 3, 7, 2} {
		wantDrop(t, p, number, api.OK)
		wantDrop(t, p, number, api.ErrKept)
		wantNoRead(t, p, number, api.ErrKept)
	}
	wantIs(t, p, "hhfhfh")
	wantUnder(t, p, 0)
	wantList(t, "List", p.List(), 7)
	wantMeta(t, p, api.Meta{Txid: 3, Root: 2, Free: 7, High: 8})
	wantSameDisk(t, "behind drops", d, was, true)
}

func TestDropOfAllBehindACommit(t *testing.T) {
	p, _ := mixed(t)
	for _, number := range []int64{2, 3, 4, 7} {
		wantDrop(t, p, number, api.OK)
	}
	wantCommit(t, p, 0, api.OK)
	wantMeta(t, p, api.Meta{Txid: 4, Free: 4, High: 8})
	wantList(t, "List", p.List(), 4)
	wantIs(t, p, "ffkfff")
	wantRead(t, p, 4, api.Page{Kind: api.PageFree, Txid: 4, Body: bodyOf(2, 3, 5, 6, 7)})
}

func TestDropIsWrittenNoMore(t *testing.T) {
	p, d := fresh(t, 8)
	wantWrite(t, p, "a", 2)
	wantWrite(t, p, "b", 3)
	wantWrite(t, p, "c", 4)
	wantDrop(t, p, 3, api.OK)
	wantCommit(t, p, 4, api.OK)
	if d.Steps() != 3+3+3 { // those of Make; 2, 3 and 4; a flush, the meta, a flush
		t.Errorf("%d steps", d.Steps())
	}
	wantRead(t, p, 3, api.Page{Kind: api.PageFree, Txid: 2})
	wantMeta(t, p, api.Meta{Txid: 2, Root: 4, Free: 3, High: 5})
	wantList(t, "free", p.Space().Free())
}

// P8.2: Commit

func TestCommitOfEachRoot(t *testing.T) {
	for root, want := range map[int64]api.Errno{
		0: api.OK, 2: api.OK, 3: api.OK, 4: api.OK, 7: api.OK,
		1: api.ErrArg, 5: api.ErrArg, 6: api.ErrArg, 8: api.ErrArg, 9: api.ErrArg, 11: api.ErrArg, 12: api.ErrArg,
		-1: api.ErrArg, api.MaxPages: api.ErrArg, math.MinInt64: api.ErrArg, math.MaxInt64: api.ErrArg, 1<<32 + 2: api.ErrArg,
	} {
		p, d := mixed(t)
		was := d.Copy()
		wantCommit(t, p, root, want)
		wantUnder(t, p, 0)
		if want != api.OK {
			wantMeta(t, p, api.Meta{Txid: 3, Root: 2, Free: 7, High: 8})
			wantIs(t, p, "kkfkfk")
			wantSameDisk(t, fmt.Sprintf("behind Commit(%d)", root), d, was, true)
			continue
		}
		wantMeta(t, p, api.Meta{Txid: 4, Root: root, Free: 6, High: 8})
		wantIs(t, p, "kkkfkf")
		wantRead(t, p, 6, api.Page{Kind: api.PageFree, Txid: 4, Body: bodyOf(5, 7)})
		wantMeta(t, opened(t, d), p.Meta())
	}
}

func TestCommitOfADroppedPage(t *testing.T) {
	p, _ := mixed(t)
	wantDrop(t, p, 4, api.OK)
	wantCommit(t, p, 4, api.ErrArg)
	wantDrop(t, p, 2, api.OK)
	wantCommit(t, p, 2, api.ErrArg)
	wantCommit(t, p, 2, api.OK)
}

func TestCommitOfNothing(t *testing.T) {
	p, d := fresh(t, 2)
	for txid := int64(2); txid < 7; txid++ {
		wantCommit(t, p, 0, api.OK)
		wantMeta(t, p, api.Meta{Txid: txid, High: 2})
		wantMeta(t, opened(t, d), api.Meta{Txid: txid, High: 2})
		if d.Steps() != 3+3*(txid-1) || d.Waits() != 0 {
			t.Errorf("%d steps, %d wait", d.Steps(), d.Waits())
		}
	}
}

// grown tells a pager on whose disk of 200 pages so many from 2 on are kept, and nothing is free.
func grown(t *testing.T, kept int) (*pager.Pager, *disk.Disk) {
	t.Helper()
	p, d := fresh(t, 200)
	for number := range kept {
		wantWrite(t, p, "kept", int64(2+number))
	}
	wantCommit(t, p, 2, api.OK)
	wantMeta(t, p, api.Meta{Txid: 2, Root: 2, High: int64(2 + kept)})
	wantList(t, "List", p.List())
	return p, d
}

// wantTold asks for the free list, and that it is opened as it is told.
func wantTold(t *testing.T, what string, p *pager.Pager, list, free []int64) {
	t.Helper()
	q := opened(t, p.Disk())
	for _, one := range []*pager.Pager{p, q} {
		wantList(t, what+": List", one.List(), list...)
		wantList(t, what+": free", one.Space().Free(), free...)
	}
	if !space.Same(p.Space(), q.Space()) {
		t.Errorf("%s: the space that is opened is another one", what)
	}
	wantMeta(t, q, p.Meta())
	for i, number := range list {
		body := bodyOf(free[58*i : min(58*i+58, len(free))]...)
		wantRead(t, p, number, api.Page{Kind: api.PageFree, Txid: p.Meta().Txid, Next: append(list[i+1:], 0)[0], Body: body})
	}
}

func TestCommitOfListsOfHeldPages(t *testing.T) {
	for held, pages := range map[int64]int64{1: 1, 57: 1, 58: 1, 59: 2, 116: 2, 117: 3} {
		p, _ := grown(t, 120)
		for number := range held {
			wantDrop(t, p, 3+number, api.OK)
		}
		wantCommit(t, p, 2, api.OK)
		wantTold(t, fmt.Sprintf("%d held", held), p, from(122, pages), from(3, held))
		wantMeta(t, p, api.Meta{Txid: 3, Root: 2, Free: 122, High: 122 + pages})
	}
}

func TestCommitOfListsOfFreePages(t *testing.T) {
	for _, c := range []struct{ free, pages int64 }{{1, 1}, {2, 1}, {58, 1}, {59, 1}, {60, 2}, {61, 2}, {117, 2}, {118, 2}, {119, 3}, {120, 3}} {
		p, _ := grown(t, 1)
		for number := range c.free {
			wantWrite(t, p, "new", 3+number)
		}
		for number := range c.free {
			wantDrop(t, p, 3+number, api.OK)
		}
		wantCommit(t, p, 2, api.OK)
		wantTold(t, fmt.Sprintf("%d free", c.free), p, from(3, c.pages), from(3+c.pages, c.free-c.pages))
		wantMeta(t, p, api.Meta{Txid: 3, Root: 2, Free: 3, High: 3 + c.free})
	}
}

func TestCommitOfListsOfBoth(t *testing.T) {
	p, _ := grown(t, 120)
	for number := int64(10); number < 68; number++ {
		wantDrop(t, p, number, api.OK)
	}
	wantCommit(t, p, 2, api.OK)
	wantTold(t, "58 held", p, []int64{122}, from(10, 58))
	wantDrop(t, p, 100, api.OK)
	wantCommit(t, p, 2, api.OK) // 58 are free, 100 and 122 held: two pages are taken of the free ones
	wantTold(t, "58 free, two held", p, []int64{10, 11}, append(from(12, 56), 100, 122))
	wantCommit(t, p, 2, api.OK) // 58 are free, 10 and 11 held
	wantTold(t, "58 free, two held", p, []int64{12, 13}, append(append([]int64{10, 11}, from(14, 54)...), 100, 122))
}

func TestCommitGivesTheElderListBack(t *testing.T) {
	p, d := mixed(t)
	wantCommit(t, p, 2, api.OK)
	wantTold(t, "once", p, []int64{6}, []int64{5, 7})
	wantCommit(t, p, 2, api.OK)
	wantTold(t, "twice", p, []int64{5}, []int64{6, 7})
	wantCommit(t, p, 2, api.OK)
	wantTold(t, "three times", p, []int64{6}, []int64{5, 7})
	elder, _ := d.Crash()
	wantMeta(t, opened(t, elder), api.Meta{Txid: 6, Root: 2, Free: 6, High: 8})
}

func TestCommitOfNoRoom(t *testing.T) {
	p, d := fresh(t, 5)
	for _, body := range []string{"two", "three", "four"} {
		p.Write(api.PageLeaf, 0, []byte(body))
	}
	wantCommit(t, p, 2, api.OK)
	was := d.Copy()
	wantDrop(t, p, 3, api.OK)
	wantDrop(t, p, 4, api.OK)
	wantIs(t, p, "khh")
	wantArm(t, d, api.ArmFail, 0)
	wantCommit(t, p, 2, api.ErrRoom) // there is no page for the free list
	wantArm(t, d, api.ArmNone, -1)
	wantIs(t, p, "kkk")
	wantSameDisk(t, "behind a commit without room", d, was, true)
	wantMeta(t, p, api.Meta{Txid: 2, Root: 2, High: 5})
	wantRead(t, p, 4, at(leaf("four"), 2))
	wantCommit(t, p, 3, api.OK)
	wantMeta(t, p, api.Meta{Txid: 3, Root: 3, High: 5})
}

func TestCommitOfNoRoomForASecondPage(t *testing.T) {
	p, d := fresh(t, 63)
	for range 60 {
		p.Write(api.PageLeaf, 0, nil)
	}
	wantCommit(t, p, 2, api.OK)
	for number := int64(3); number < 62; number++ {
		wantDrop(t, p, number, api.OK)
	}
	was := d.Copy()
	wantCommit(t, p, 2, api.ErrRoom) // of 59 held pages a list has two, and there is room for one
	wantIs(t, p, string(bytes.Repeat([]byte("k"), 60)))
	wantMeta(t, p, api.Meta{Txid: 2, Root: 2, High: 62})
	wantSameDisk(t, "behind a commit without room", d, was, true)
	for number := int64(3); number < 61; number++ {
		wantDrop(t, p, number, api.OK)
	}
	wantCommit(t, p, 2, api.OK)
	wantTold(t, "58 held", p, []int64{62}, from(3, 58))
}

func TestCommitIsInOrder(t *testing.T) {
	// what of the pages 4, 6 (the free list), 0 (the meta) is written, and how much waits, when so many steps were done
	steps := []struct {
		written []int64
		waits   int
	}{{nil, 0}, {[]int64{4}, 1}, {[]int64{4, 6}, 2}, {[]int64{4, 6}, 0}, {[]int64{0, 4, 6}, 1}, {[]int64{0, 4, 6}, 0}}
	for done, want := range steps {
		p, d := mixed(t)
		was := d.Copy()
		wantArm(t, d, api.ArmStop, done)
		e := api.ErrDead
		if done == 5 {
			e = api.OK
		}
		wantCommit(t, p, 2, e)
		var written []int64
		for number := range d.Pages() {
			b, _ := d.Read(number)
			if elder, _ := was.Read(number); !bytes.Equal(b, elder) {
				written = append(written, int64(number))
			}
		}
		wantList(t, fmt.Sprintf("written behind %d steps", done), written, want.written...)
		if d.Waits() != want.waits || d.Steps() != was.Steps()+int64(done) {
			t.Errorf("behind %d steps: %d wait, %d were done", done, d.Waits(), d.Steps()-was.Steps())
		}
		if p.Broken() != (done == 4) {
			t.Errorf("behind %d steps: broken: %v", done, p.Broken())
		}
	}
}

func TestCommitThatFails(t *testing.T) {
	for steps := range 7 {
		p, d := mixed(t)
		was := d.Copy()
		wantArm(t, d, api.ArmFail, steps)
		if steps >= 5 {
			wantCommit(t, p, 4, api.OK)
			continue
		}
		wantCommit(t, p, 4, api.ErrFault)
		wantMeta(t, p, api.Meta{Txid: 3, Root: 2, Free: 7, High: 8})
		wantIs(t, p, "kkfkfk")
		wantUnder(t, p, 0)
		for number := range 2 {
			b, _ := d.Read(number)
			if elder, _ := was.Read(number); !bytes.Equal(b, elder) {
				t.Errorf("failed at %d: the meta of page %d is another one", steps, number)
			}
		}
		if steps == 4 && (d.Waits() != 0 || d.Steps() != was.Steps()+6) { // two pages, a flush, the meta; then the elder one, a flush
			t.Errorf("a meta that was undone: %d wait, %d steps", d.Waits(), d.Steps()-was.Steps())
		}
		if p.Broken() {
			t.Errorf("failed at %d: broken", steps)
		}
		c, _ := d.Crash(-1, -1, -1, -1, -1, -1, -1, -1)
		wantMeta(t, opened(t, c), p.Meta())
		wantWrite(t, p, "anew", 4)
		wantCommit(t, p, 4, api.OK)
		wantMeta(t, opened(t, d), api.Meta{Txid: 4, Root: 4, Free: 6, High: 8})
		wantRead(t, p, 4, at(leaf("anew"), 4))
	}
}

func TestCommitThatFailsBringsAnyBytesBack(t *testing.T) {
	p, d := fresh(t, 8)
	any := bytes.Repeat([]byte("any"), 100)[:api.PageSize]
	lay(t, d, 0, any)
	wantArm(t, d, api.ArmFail, 2)
	wantCommit(t, p, 0, api.ErrFault)
	if b, _ := d.Read(0); !bytes.Equal(b, any) {
		t.Errorf("page 0: %x", b)
	}
	wantMeta(t, opened(t, d), api.Meta{Txid: 1, High: 2})
}

func TestCommitThatBreaks(t *testing.T) {
	p, d := mixed(t)
	wantArm(t, d, api.ArmStop, 4)
	wantCommit(t, p, 4, api.ErrDead)
	if !p.Broken() {
		t.Errorf("it is not broken")
	}
	for _, k := range []api.PageKind{api.PageLeaf, api.PageMeta} {
		wantNoWrite(t, p, k, 0, nil, api.ErrBroken)
	}
	for _, number := range []int64{-1, 0, 2, 4, 5, 6, 7, 8} {
		wantNoRead(t, p, number, api.ErrBroken)
		wantDrop(t, p, number, api.ErrBroken)
		wantCommit(t, p, number, api.ErrBroken)
	}
	wantErr(t, "Abort", p.Abort(), api.ErrBroken)
	c := p.Copy()
	wantCommit(t, c, 0, api.ErrBroken)
	for _, one := range []*pager.Pager{p, c} {
		if !one.Broken() {
			t.Errorf("it is not broken any more")
		}
		wantMeta(t, one, api.Meta{Txid: 3, Root: 2, Free: 7, High: 8})
		wantIs(t, one, "kkfkfk")
		wantList(t, "List", one.List(), 7)
		wantUnder(t, one, 0)
		wantSameDisk(t, "of a broken one", one.Disk(), d, true)
	}
	for pick, want := range []api.Meta{{Txid: 3, Root: 2, Free: 7, High: 8}, {Txid: 4, Root: 4, Free: 6, High: 8}} {
		after, _ := d.Crash(pick, pick, pick, pick)
		q := opened(t, after)
		wantMeta(t, q, want)
		wantRead(t, q, 2, at(leaf("two"), 2))
		if q.Broken() {
			t.Errorf("what a crash leaves is broken")
		}
	}
}

func TestCommitOfADeadDisk(t *testing.T) {
	for steps := range 4 {
		p, d := mixed(t)
		wantArm(t, d, api.ArmStop, steps)
		wantCommit(t, p, 4, api.ErrDead)
		wantRead(t, p, 3, at(leaf("three"), 2))
		wantIs(t, p, "kkfkfk")
		wantWrite(t, p, "once more", 4)
		wantCommit(t, p, 1, api.ErrArg)
		wantUnder(t, p, 0)
		wantCommit(t, p, 2, api.ErrDead)
		wantErr(t, "Abort", p.Abort(), api.OK)
		if p.Broken() {
			t.Errorf("refused at %d: broken", steps)
		}
	}
}

func TestWriteDoesNothingToTheDisk(t *testing.T) {
	for _, kind := range []api.Arm{api.ArmStop, api.ArmFail} {
		p, d := mixed(t)
		wantArm(t, d, kind, 0)
		was := d.Copy()
		wantWrite(t, p, "a", 6)
		wantRead(t, p, 2, at(leaf("two"), 2))
		wantDrop(t, p, 3, api.OK)
		wantErr(t, "Abort", p.Abort(), api.OK)
		wantSameDisk(t, "behind all but a commit", d, was, true)
	}
}

// P8.2: Abort

func TestAbort(t *testing.T) {
	p, d := mixed(t)
	was := d.Copy()
	wantWrite(t, p, "a", 6)
	wantWrite(t, p, "b", 8)
	wantIs(t, p, "kknhnkn")
	for range 2 {
		wantErr(t, "Abort", p.Abort(), api.OK)
		wantIs(t, p, "kkfkfk")
		wantUnder(t, p, 0)
		wantMeta(t, p, api.Meta{Txid: 3, Root: 2, Free: 7, High: 8})
		wantNoRead(t, p, 4, api.ErrKept)
		wantRead(t, p, 5, at(leaf("five"), 2))
	}
	wantSameDisk(t, "behind Abort", d, was, true)
	wantWrite(t, p, "c", 4)
	wantRead(t, p, 4, at(leaf("c"), 4))
}

// P8.3: what it says of itself

func TestUnder(t *testing.T) {
	p, _ := fresh(t, 8)
	wantUnder(t, p, 0)
	for under := 1; under <= 3; under++ {
		wantWrite(t, p, "a", int64(1+under))
		wantUnder(t, p, under)
	}
	wantDrop(t, p, 3, api.OK)
	wantUnder(t, p, 2)
	wantCommit(t, p, 2, api.OK)
	wantUnder(t, p, 0)
	wantDrop(t, p, 2, api.OK)
	wantUnder(t, p, 0)
}

func TestWhatIsHandedOutIsApart(t *testing.T) {
	p, d := mixed(t)
	was := d.Copy()
	s := p.Space()
	s.Take()
	s.Give(2)
	s.Lasts()
	list := p.List()
	list[0] = 3
	other := p.Disk()
	other.Write(2, make([]byte, api.PageSize))
	other.Arm(api.ArmStop, 0)
	other.Flush()
	wantIs(t, p, "kknhfk")
	wantList(t, "List", p.List(), 7)
	wantSameDisk(t, "the disk", d, was, true)
	wantSameDisk(t, "the disk", p.Disk(), was, true)
	wantCommit(t, p, 2, api.OK)
	wantMeta(t, p, api.Meta{Txid: 4, Root: 2, Free: 6, High: 8})
	list = p.List()
	p.Commit(2)
	wantList(t, "an elder List", list, 6)
}

func TestDiskIsACopyOfAllOfIt(t *testing.T) {
	p, d := mixed(t)
	wantArm(t, d, api.ArmFail, 3)
	d.Write(9, make([]byte, api.PageSize))
	c := p.Disk()
	wantSameDisk(t, "armed, and with what waits", c, d, true)
	d.Flush()
	wantSameDisk(t, "an elder copy", c, d, false)
}

func TestCopyGoesOnApart(t *testing.T) {
	for _, first := range []bool{true, false} {
		p, d := mixed(t)
		c := p.Copy()
		wantSameDisk(t, "of a copy", c.Disk(), d, true)
		if !space.Same(p.Space(), c.Space()) || p.Meta() != c.Meta() || p.Under() != c.Under() {
			t.Errorf("a copy: %v %d, want %v %d", c.Meta(), c.Under(), p.Meta(), p.Under())
		}
		goes, stays := p, c
		if first {
			goes, stays = c, p
		}
		was := stays.Disk()
		wantWrite(t, goes, "more", 6)
		wantDrop(t, goes, 4, api.OK)
		wantDrop(t, goes, 2, api.OK)
		wantIs(t, stays, "kknhfk")
		wantRead(t, stays, 4, at(leaf("new"), 4))
		wantRead(t, stays, 2, at(leaf("two"), 2))
		wantUnder(t, stays, 1)
		wantCommit(t, goes, 6, api.OK)
		wantMeta(t, goes, api.Meta{Txid: 4, Root: 6, Free: 4, High: 8})
		wantMeta(t, stays, api.Meta{Txid: 3, Root: 2, Free: 7, High: 8})
		wantList(t, "List of the one that stays", stays.List(), 7)
		wantSameDisk(t, "of the one that stays", stays.Disk(), was, true)
		wantCommit(t, stays, 4, api.OK)
		wantMeta(t, stays, api.Meta{Txid: 4, Root: 4, Free: 6, High: 8})
		wantRead(t, goes, 6, at(leaf("more"), 4))
		wantErr(t, "Abort", goes.Abort(), api.OK)
		wantIs(t, goes, "fkkfkf")
		wantIs(t, stays, "kkkfkf")
	}
}

func TestCopyBehindAbort(t *testing.T) {
	p, _ := mixed(t)
	c := p.Copy()
	p.Abort()
	wantRead(t, c, 4, at(leaf("new"), 4))
	wantWrite(t, p, "other", 4)
	wantRead(t, c, 4, at(leaf("new"), 4))
	c.Abort()
	wantRead(t, p, 4, at(leaf("other"), 4))
}

// P8.4: a page that is kept is never written over

func TestKeptPagesAreNotWrittenOver(t *testing.T) {
	p, d := mixed(t)
	was := d.Copy()
	wantDrop(t, p, 2, api.OK)
	wantDrop(t, p, 3, api.OK)
	wantDrop(t, p, 7, api.OK)
	var root int64
	for {
		number, e := p.Write(api.PageLeaf, 0, []byte("as many as there is room for"))
		if e != api.OK {
			break
		}
		root = number
	}
	wantDrop(t, p, 4, api.OK)
	wantArm(t, d, api.ArmStop, 8) // all pages are written, and flushed; the meta is refused
	wantCommit(t, p, root, api.ErrDead)
	for _, number := range []int{2, 3, 5, 7} {
		b, _ := d.Read(number)
		if elder, _ := was.Read(number); !bytes.Equal(b, elder) {
			t.Errorf("page %d was written over", number)
		}
	}
	c, _ := d.Crash()
	q := opened(t, c)
	wantMeta(t, q, api.Meta{Txid: 3, Root: 2, Free: 7, High: 8})
	wantRead(t, q, 5, at(leaf("five"), 2))
}

// A pager that is not there

func TestNoPager(t *testing.T) {
	refused, _ := pager.Open(freshDisk(t, 4))
	for what, p := range map[string]*pager.Pager{"nil": nil, "zero": {}, "of a maker that refused": refused} {
		wantNoWrite(t, p, api.PageLeaf, 0, nil, api.ErrNil)
		wantNoWrite(t, p, api.PageMeta, -1, nil, api.ErrNil)
		for _, number := range []int64{-1, 0, 1, 2, api.MaxPages} {
			wantNoRead(t, p, number, api.ErrNil)
			wantDrop(t, p, number, api.ErrNil)
			wantCommit(t, p, number, api.ErrNil)
		}
		wantErr(t, what+": Abort", p.Abort(), api.ErrNil)
		wantMeta(t, p, api.Meta{})
		wantList(t, what+": List", p.List())
		wantUnder(t, p, 0)
		if p.Space() != nil || p.Broken() || p.Disk() != nil || p.Copy() != nil {
			t.Errorf("%s: %v %v %v %v", what, p.Space(), p.Broken(), p.Disk(), p.Copy())
		}
	}
}

// The chapter's examples

func TestExamples(t *testing.T) {
	p, _ := fresh(t, 8)
	wantWrite(t, p, "", 2)
	wantCommit(t, p, 2, api.OK)
	wantMeta(t, p, api.Meta{Txid: 2, Root: 2, High: 3})
	wantDrop(t, p, 2, api.OK)
	wantWrite(t, p, "", 3)
	wantCommit(t, p, 3, api.OK)
	wantMeta(t, p, api.Meta{Txid: 3, Root: 3, Free: 4, High: 5})
	wantNoRead(t, p, 2, api.ErrKept)
	wantWrite(t, p, "", 2)
}
