package chain_test

import (
	"bytes"
	"fmt"
	"math"
	"slices"
	"testing"

	"pigeonry/api"
	"pigeonry/chain"
	"pigeonry/disk"
	"pigeonry/meta"
	"pigeonry/page"
	"pigeonry/pager"
	"pigeonry/space"
)

const room = api.MaxRoom

// edges are sizes that may be: of one byte, of whole pages, of a byte less and more.
func edges() []int64 {
	return []int64{1, 2, 100, room - 1, room, room + 1, 2*room - 1, 2 * room, 2*room + 1, 3 * room, 17 * room, 17*room + 1, api.MaxValue - 1, api.MaxValue}
}

// wrong are sizes that may not be.
func wrong() []int64 {
	return []int64{0, -1, -room, math.MinInt64, api.MaxValue + 1, 18 * room, 1 << 32, 1<<32 + 1, math.MaxInt64 - 1, math.MaxInt64}
}

func wantErr(t *testing.T, what string, got, want api.Errno) {
	t.Helper()
	if got != want {
		t.Errorf("%s: %v, want %v", what, got, want)
	}
}

func freshDisk(t *testing.T, pages int) *disk.Disk {
	t.Helper()
	d, e := disk.New(pages)
	if e != api.OK {
		t.Fatalf("New(%d): %v", pages, e)
	}
	return d
}

func opened(t *testing.T, d *disk.Disk) *pager.Pager {
	t.Helper()
	p, e := pager.Open(d)
	if e != api.OK || p == nil {
		t.Fatalf("Open: %v %v", p, e)
	}
	return p
}

// fresh tells a pager of a disk of so many pages, in whose store nothing stands.
func fresh(t *testing.T, pages int) (*pager.Pager, *disk.Disk) {
	t.Helper()
	d := freshDisk(t, pages)
	if e := pager.Make(d); e != api.OK {
		t.Fatalf("Make of %d pages: %v", pages, e)
	}
	return opened(t, d), d
}

// some tells so many bytes, no two runs of which that are as long as a page are the same.
func some(size int64) []byte {
	b := make([]byte, size)
	for i := range b {
		b[i] = byte(i*7 + i/256*13 + int(size))
	}
	return b
}

func wantPut(t *testing.T, p *pager.Pager, b []byte, want int64) {
	t.Helper()
	if first, e := chain.Put(p, b); first != want || e != api.OK {
		t.Errorf("Put(%d bytes): %d %v, want %d", len(b), first, e, want)
	}
}

func wantNoPut(t *testing.T, p *pager.Pager, b []byte, want api.Errno) {
	t.Helper()
	if first, e := chain.Put(p, b); first != 0 || e != want {
		t.Errorf("Put(%d bytes): %d %v, want 0 %v", len(b), first, e, want)
	}
}

// wantChain asks for the bytes and the pages of a chain.
func wantChain(t *testing.T, p *pager.Pager, first int64, b []byte, pages ...int64) {
	t.Helper()
	if got, e := chain.Get(p, first, int64(len(b))); !bytes.Equal(got, b) || e != api.OK {
		t.Errorf("Get(%d, %d): %d bytes %v, other ones: %v", first, len(b), len(got), e, !bytes.Equal(got, b))
	}
	if got, e := chain.Pages(p, first, int64(len(b))); !slices.Equal(got, pages) || e != api.OK {
		t.Errorf("Pages(%d, %d): %v %v, want %v", first, len(b), got, e, pages)
	}
}

// wantNone asks for a chain that there is not, or may not be; and whether nothing is dropped.
func wantNone(t *testing.T, p *pager.Pager, first, size int64, want api.Errno) {
	t.Helper()
	was := p.Copy()
	if got, e := chain.Get(p, first, size); got != nil || e != want {
		t.Errorf("Get(%d, %d): %d bytes %v, want none and %v", first, size, len(got), e, want)
	}
	if got, e := chain.Pages(p, first, size); got != nil || e != want {
		t.Errorf("Pages(%d, %d): %v %v, want none and %v", first, size, got, e, want)
	}
	if e := chain.Drop(p, first, size); e != want {
		t.Errorf("Drop(%d, %d): %v, want %v", first, size, e, want)
	}
	wantAlike(t, fmt.Sprintf("behind what is refused of (%d, %d)", first, size), p, was)
}

func wantDrop(t *testing.T, p *pager.Pager, first, size int64) {
	t.Helper()
	wantErr(t, fmt.Sprintf("Drop(%d, %d)", first, size), chain.Drop(p, first, size), api.OK)
}

func wantCommit(t *testing.T, p *pager.Pager, root int64, want api.Errno) {
	t.Helper()
	wantErr(t, fmt.Sprintf("Commit(%d)", root), p.Commit(root), want)
}

// wantIs asks what the pages from 2 on are, a letter each: k, n, h, f; and that none is behind them.
func wantIs(t *testing.T, p *pager.Pager, want string) {
	t.Helper()
	letters := map[api.Place]byte{api.PlaceKept: 'k', api.PlaceNew: 'n', api.PlaceHeld: 'h', api.PlaceFree: 'f'}
	s := p.Space()
	var got []byte
	for number := int64(2); number < s.High(); number++ {
		got = append(got, letters[s.Is(number)])
	}
	if string(got) != want {
		t.Errorf("the space: %s, want %s", got, want)
	}
}

func wantUnder(t *testing.T, p *pager.Pager, want int) {
	t.Helper()
	if got := p.Under(); got != want {
		t.Errorf("Under: %d, want %d", got, want)
	}
}

// wantAlike asks whether two pagers stand alike in all that they tell.
func wantAlike(t *testing.T, what string, p, q *pager.Pager) {
	t.Helper()
	if p.Meta() != q.Meta() || !slices.Equal(p.List(), q.List()) || p.Under() != q.Under() || p.Broken() != q.Broken() {
		t.Fatalf("%s: %v %v %d %v, want %v %v %d %v", what, p.Meta(), p.List(), p.Under(), p.Broken(), q.Meta(), q.List(), q.Under(), q.Broken())
	}
	s, r := p.Space(), q.Space()
	if !space.Same(s, r) {
		t.Fatalf("%s: the space: %d %v %v %v, want %d %v %v %v", what, s.High(), s.Free(), s.New(), s.Held(), r.High(), r.Free(), r.New(), r.Held())
	}
	for number := int64(2); number < s.High(); number++ {
		a, e := p.Read(number)
		b, f := q.Read(number)
		if !page.Same(a, b) || e != f {
			t.Fatalf("%s: page %d: %v %v, want %v %v", what, number, a, e, b, f)
		}
	}
	if !disk.Same(p.Disk(), q.Disk()) {
		t.Fatalf("%s: another disk", what)
	}
}

// write writes a page of any Kind.
func write(t *testing.T, p *pager.Pager, k api.PageKind, next, size, want int64) {
	t.Helper()
	if number, e := p.Write(k, next, some(size)); number != want || e != api.OK {
		t.Fatalf("Write(%d, %d, %d bytes): %d %v, want %d", k, next, size, number, e, want)
	}
}

// breaks breaks a pager: its commit is stopped behind the meta.
func breaks(t *testing.T, p *pager.Pager, d *disk.Disk) {
	t.Helper()
	for steps := range 10 {
		c := d.Copy()
		c.Arm(api.ArmStop, steps)
		if q := opened(t, c); q.Commit(0) != api.OK && q.Broken() {
			p.Abort()
			d.Arm(api.ArmStop, steps)
			wantCommit(t, p, 0, api.ErrDead)
			break
		}
	}
	if !p.Broken() {
		t.Fatalf("it does not break")
	}
}

// mixed tells a pager of a disk of 16 pages. 3 and 2 are a chain of 300 bytes that lasts; 6, 5 and 4 were one of 500, of which 5 is held; 8 and 7 are one of 233 that is under way; 9 is a leaf that lasts, 10 the free list's, 11 is free.
func mixed(t *testing.T) (*pager.Pager, *disk.Disk) {
	t.Helper()
	p, d := fresh(t, 16)
	wantPut(t, p, some(300), 3)
	wantPut(t, p, some(500), 6)
	for number := int64(7); number < 10; number++ {
		write(t, p, api.PageLeaf, 0, room, number)
	}
	wantCommit(t, p, 9, api.OK)
	wantErr(t, "the pager's Drop", p.Drop(7), api.OK)
	wantErr(t, "the pager's Drop", p.Drop(8), api.OK)
	wantCommit(t, p, 9, api.OK)
	wantPut(t, p, some(233), 8)
	write(t, p, api.PageLeaf, 0, room, 11)
	wantErr(t, "the pager's Drop", p.Drop(11), api.OK)
	wantErr(t, "the pager's Drop", p.Drop(5), api.OK)
	wantIs(t, p, "kkkhknnkkf")
	return p, d
}

// P9.1: Put

func TestPutOfEachSize(t *testing.T) {
	for _, size := range edges() {
		p, d := fresh(t, 40)
		was := d.Copy()
		need := chain.Need(size)
		b := some(size)
		wantPut(t, p, b, need+1)
		var pages []int64
		for number := need + 1; number > 1; number-- {
			pages = append(pages, number)
		}
		wantChain(t, p, need+1, b, pages...)
		wantUnder(t, p, int(need))
		for i, number := range pages {
			from := i * room
			body := b[from:min(from+room, len(b))]
			next := append(pages[i+1:], 0)[0]
			want := api.Page{Kind: api.PageChain, Txid: 2, Next: next, Body: body}
			if got, e := p.Read(number); !page.Same(got, want) || e != api.OK {
				t.Errorf("Put(%d bytes): page %d: %v %v, want %v", size, number, got, e, want)
			}
		}
		if !disk.Same(d, was) {
			t.Errorf("Put(%d bytes) does something to the disk", size)
		}
	}
}

func TestPutOfWrongSizes(t *testing.T) {
	p, _ := mixed(t)
	was := p.Copy()
	for _, size := range []int{0, api.MaxValue + 1, 18 * room, api.MaxText, 1 << 20} {
		wantNoPut(t, p, make([]byte, size), api.ErrArg)
	}
	wantNoPut(t, p, nil, api.ErrArg)
	wantNoPut(t, p, make([]byte, 0, 100), api.ErrArg)
	wantAlike(t, "Put of sizes that may not be", p, was)
}

func TestPutTakesTheLeastPages(t *testing.T) {
	p, _ := mixed(t)
	wantPut(t, p, some(2*room+1), 13)
	wantChain(t, p, 13, some(2*room+1), 13, 12, 11)
	wantIs(t, p, "kkkhknnkknnn")
	wantErr(t, "Abort", p.Abort(), api.OK)
	wantPut(t, p, some(room+1), 8)
	wantChain(t, p, 8, some(room+1), 8, 7)
}

func TestPutKeepsNothingOfTheBytes(t *testing.T) {
	p, _ := fresh(t, 8)
	all := some(600)
	b := all[100:500]
	wantPut(t, p, b, 3)
	if !bytes.Equal(all, some(600)) {
		t.Errorf("Put changed what it was handed")
	}
	clear(all)
	wantChain(t, p, 3, some(600)[100:500], 3, 2)
}

func TestPutOfJustEnoughRoom(t *testing.T) {
	for _, size := range edges() {
		p, _ := fresh(t, int(chain.Need(size))+2)
		wantPut(t, p, some(size), chain.Need(size)+1)
		wantNoPut(t, p, some(1), api.ErrRoom)
		if got, e := chain.Get(p, chain.Need(size)+1, size); !bytes.Equal(got, some(size)) || e != api.OK {
			t.Errorf("Get(%d): %v", size, e)
		}
	}
}

// wantNoRoom asks whether what Put wrote is dropped again: the pages that were free are, those above High are now free below it.
func wantNoRoom(t *testing.T, p *pager.Pager, size int64, is string) {
	t.Helper()
	under := p.Under()
	wantNoPut(t, p, some(size), api.ErrRoom)
	wantUnder(t, p, under)
	wantIs(t, p, is)
}

func TestPutOfNoRoom(t *testing.T) {
	p, _ := fresh(t, 2)
	wantNoRoom(t, p, 1, "") // ahead of the first page
	p, _ = fresh(t, 3)
	wantNoRoom(t, p, room+1, "f") // behind one
	wantNoRoom(t, p, room+1, "f")
	wantPut(t, p, some(room), 2)
	p, _ = fresh(t, 8)
	wantNoRoom(t, p, api.MaxValue, "ffffff")
	wantNoRoom(t, p, 6*room+1, "ffffff")
	wantPut(t, p, some(6*room), 7)
	p, _ = mixed(t)
	wantNoRoom(t, p, 5*room+1, "kkkhknnkkfffff") // 11 was free, 12 to 15 were above High
	wantChain(t, p, 8, some(233), 8, 7)
	wantChain(t, p, 3, some(300), 3, 2)
	wantPut(t, p, some(5*room), 15)
	wantIs(t, p, "kkkhknnkknnnnn")
	wantNoRoom(t, p, 1, "kkkhknnkknnnnn")
	wantErr(t, "Abort", p.Abort(), api.OK)
	wantIs(t, p, "kkkkkffkk")
}

func TestPutOfNoRoomTakesNoHeldPage(t *testing.T) {
	p, _ := fresh(t, 6)
	wantPut(t, p, some(2*room), 3)
	wantCommit(t, p, 3, api.OK)
	wantDrop(t, p, 3, 2*room)
	wantIs(t, p, "hh")
	wantNoRoom(t, p, 2*room+1, "hhff")
	wantPut(t, p, some(2*room), 5)
	wantIs(t, p, "hhnn")
}

// atLast tells a pager behind whose next commit none can be.
func atLast(t *testing.T, txid int64) *pager.Pager {
	t.Helper()
	d := freshDisk(t, 30)
	b, _ := meta.Raw(api.Meta{Txid: txid, High: 3})
	wantErr(t, "the disk's Write", d.Write(int(txid%2), b), api.OK)
	return opened(t, d)
}

func TestPutAtTheLastTxid(t *testing.T) {
	p := atLast(t, 1<<62-1)
	wantPut(t, p, some(300), 4)
	wantCommit(t, p, 4, api.OK)
	wantChain(t, p, 4, some(300), 4, 3)
	p = atLast(t, 1<<62)
	was := p.Copy()
	wantNoPut(t, p, some(300), api.ErrArg)
	wantAlike(t, "Put behind the last Txid", p, was)
}

// P9.1: Get, Pages, Drop

func TestOfEachPage(t *testing.T) {
	p, _ := mixed(t)
	for _, number := range []int64{math.MinInt64, -1, 0, 1, 2, 4, 5, 6, 7, 9, 10, 11, 12, 15, 16, api.MaxPages, 1 << 32, 1<<32 + 3, math.MaxInt64} {
		for _, size := range edges() {
			if !(number == 2 && size == 1 || number == 4 && size == 36 || number == 7 && size == 1) { // those are ends, which are chains of their own
				wantNone(t, p, number, size, api.ErrChain)
			}
		}
		wantNone(t, p, number, 300, api.ErrChain)
		wantNone(t, p, number, 500, api.ErrChain)
	}
	wantChain(t, p, 3, some(300), 3, 2)
	wantChain(t, p, 8, some(233), 8, 7)
}

func TestOfEachSize(t *testing.T) {
	for _, put := range edges() {
		p, _ := fresh(t, 24)
		first := chain.Need(put) + 1
		wantPut(t, p, some(put), first)
		for _, size := range append(edges(), put-1, put+1, put-room, put+room) {
			if size != put && chain.Need(size) > 0 {
				wantNone(t, p, first, size, api.ErrChain)
			}
		}
	}
}

func TestOfWrongSizes(t *testing.T) {
	p, _ := mixed(t)
	for _, size := range wrong() {
		for _, number := range []int64{-1, 0, 2, 3, 8, 9, 16} {
			wantNone(t, p, number, size, api.ErrArg)
		}
	}
}

// The pages behind the first one are a chain, too: of what is left.
func TestOfWhatIsLeft(t *testing.T) {
	p, _ := fresh(t, 24)
	b := some(3*room + 5)
	wantPut(t, p, b, 5)
	wantChain(t, p, 5, b, 5, 4, 3, 2)
	wantChain(t, p, 4, b[room:], 4, 3, 2)
	wantChain(t, p, 3, b[2*room:], 3, 2)
	wantChain(t, p, 2, b[3*room:], 2)
	wantDrop(t, p, 4, 2*room+5)
	wantIs(t, p, "fffn")
	wantNone(t, p, 5, int64(len(b)), api.ErrChain)
	wantNone(t, p, 5, room, api.ErrChain)
}

func TestOfOtherLinks(t *testing.T) {
	for _, c := range []struct {
		what  string
		sizes []int64 // of the pages from 2 on
		nexts []int64
		first int64
		good  int64 // the size that goes, 0 if there is none
	}{
		{"a page that leads to itself", []int64{room}, []int64{2}, 2, 0},
		{"two that lead to each other", []int64{room, room}, []int64{3, 2}, 2, 0},
		{"three that go round", []int64{room, room, 5}, []int64{3, 4, 2}, 2, 0},
		{"one that leads to what goes round", []int64{room, room, room}, []int64{3, 4, 3}, 2, 0},
		{"rising pages", []int64{room, room, 5}, []int64{3, 4, 0}, 2, 2*room + 5},
		{"pages in any order", []int64{room, 5, room}, []int64{3, 0, 2}, 4, 2*room + 5},
		{"an empty page", []int64{0}, []int64{0}, 2, 0},
		{"an empty page behind a full one", []int64{0, room}, []int64{0, 2}, 3, 0},
		{"a page that is not full ahead of one", []int64{5, room - 1}, []int64{0, 2}, 3, 0},
		{"a page that is not full between two", []int64{5, room - 1, room}, []int64{0, 2, 3}, 4, 0},
		{"one that leads to page 1", []int64{room}, []int64{1}, 2, 0},
		{"one that leads to High", []int64{room}, []int64{3}, 2, 0},
		{"one that leads beyond the room", []int64{room}, []int64{30}, 2, 0},
		{"one that leads to the last page that may be", []int64{room}, []int64{api.MaxPages - 1}, 2, 0},
		{"the last page leads on", []int64{5, room}, []int64{3, 2}, 3, 0},
		{"two that lead to one: the first", []int64{5, room, room}, []int64{0, 2, 2}, 3, room + 5},
		{"two that lead to one: the second", []int64{5, room, room}, []int64{0, 2, 2}, 4, room + 5},
	} {
		p, _ := fresh(t, 30)
		total := int64(0)
		for i, size := range c.sizes {
			write(t, p, api.PageChain, c.nexts[i], size, int64(i)+2)
			total += size
		}
		for _, size := range append(edges(), 4*room, 5, room+5, 2*room+5, total) {
			switch got, e := chain.Get(p, c.first, size); {
			case size == 0: // that may not be
			case size != c.good:
				wantNone(t, p, c.first, size, api.ErrChain)
			case int64(len(got)) != size || e != api.OK:
				t.Errorf("%s: Get(%d, %d): %d bytes %v", c.what, c.first, size, len(got), e)
			}
		}
		if c.good > 0 {
			wantDrop(t, p, c.first, c.good)
			wantNone(t, p, c.first, c.good, api.ErrChain)
		}
	}
}

// A chain is as long as any may be, and one page more is none.
func TestOfAPageMoreThanMayBe(t *testing.T) {
	p, _ := fresh(t, 40)
	next := int64(0)
	for number := int64(2); number < 30; number++ {
		write(t, p, api.PageChain, next, room, number)
		next = number
	}
	for size := int64(1); size <= 17; size++ {
		if l, e := chain.Pages(p, size+1, size*room); int64(len(l)) != size || e != api.OK {
			t.Errorf("Pages(%d, %d): %v %v", size+1, size*room, l, e)
		}
	}
	wantNone(t, p, 19, api.MaxValue, api.ErrChain)
	wantNone(t, p, 19, 18*room, api.ErrArg)
}

func TestOfOtherKinds(t *testing.T) {
	for _, k := range []api.PageKind{api.PageLeaf, api.PageBranch} {
		for other := range int64(3) { // which page is of that Kind
			p, _ := fresh(t, 30)
			next := int64(0)
			for i, size := range []int64{5, room, room} {
				kind := api.PageChain
				if int64(i) == other {
					kind = k
				}
				write(t, p, kind, next, size, int64(i)+2)
				next = int64(i) + 2
			}
			for first := int64(2); first < 5; first++ {
				size := 5 + (first-2)*room
				if first >= other+2 {
					wantNone(t, p, first, size, api.ErrChain)
				} else if l, e := chain.Pages(p, first, size); int64(len(l)) != first-1 || e != api.OK {
					t.Errorf("Pages(%d, %d): %v %v", first, size, l, e)
				}
			}
		}
	}
}

// Pages of the free list may be read, and are no chain's, even if they are just as long.
func TestOfTheFreeList(t *testing.T) {
	p, _ := fresh(t, 200)
	for number := int64(2); number < 100; number++ {
		write(t, p, api.PageLeaf, 0, 1, number)
	}
	wantCommit(t, p, 0, api.OK)
	for number := int64(2); number < 70; number++ {
		wantErr(t, "the pager's Drop", p.Drop(number), api.OK)
	}
	wantCommit(t, p, 0, api.OK)
	list := p.List()
	if len(list) != 2 {
		t.Fatalf("List: %v", list)
	}
	for _, size := range []int64{40, room, room + 40} {
		wantNone(t, p, list[0], size, api.ErrChain)
		wantNone(t, p, list[1], size, api.ErrChain)
	}
	first, e := p.Write(api.PageChain, list[1], some(room))
	wantErr(t, "the pager's Write", e, api.OK)
	wantNone(t, p, first, room+40, api.ErrChain)
}

func TestOfTurnedBytes(t *testing.T) {
	for _, number := range []int{2, 3, 4} {
		for _, at := range []int{0, 4, 5, 13, 17, 21, 24, 200, 255} {
			p, d := fresh(t, 30)
			wantPut(t, p, some(2*room+5), 4)
			wantCommit(t, p, 4, api.OK)
			b, _ := d.Read(number)
			b[at] ^= 1
			wantErr(t, "the disk's Write", d.Write(number, b), api.OK)
			p = opened(t, d)
			wantNone(t, p, 4, 2*room+5, api.ErrChain)
		}
	}
}

func TestOfAPageOfAnotherNumber(t *testing.T) {
	p, d := fresh(t, 30)
	wantPut(t, p, some(room), 2)
	wantPut(t, p, some(room), 3)
	wantCommit(t, p, 2, api.OK)
	b, _ := d.Read(2)
	wantErr(t, "the disk's Write", d.Write(3, b), api.OK)
	p = opened(t, d)
	wantChain(t, p, 2, some(room), 2)
	wantNone(t, p, 3, room, api.ErrChain)
}

func TestGetIsNewMemory(t *testing.T) {
	p, _ := fresh(t, 20)
	wantPut(t, p, some(700), 5)
	wantPut(t, p, some(100), 6)
	for round := range 2 {
		for first, size := range map[int64]int64{5: 700, 6: 100} {
			for range 2 {
				b, _ := chain.Get(p, first, size)
				l, _ := chain.Pages(p, first, size)
				clear(b[:cap(b)])
				clear(l[:cap(l)])
			}
		}
		wantChain(t, p, 5, some(700), 5, 4, 3, 2)
		wantChain(t, p, 6, some(100), 6)
		if round == 0 {
			wantCommit(t, p, 5, api.OK)
		}
	}
}

// P9.1: Drop

func TestDropOfWhatIsUnderWay(t *testing.T) {
	for _, size := range edges() {
		p, _ := mixed(t)
		if chain.Need(size) > 5 {
			continue
		}
		is := "kkkhknnkk" + "fffff"[:chain.Need(size)]
		first, e := chain.Put(p, some(size))
		wantErr(t, "Put", e, api.OK)
		wantUnder(t, p, 2+int(chain.Need(size)))
		wantDrop(t, p, first, size)
		wantUnder(t, p, 2)
		wantIs(t, p, is)
		wantNone(t, p, first, size, api.ErrChain)
	}
}

func TestDropOfWhatLasts(t *testing.T) {
	p, d := mixed(t)
	wantDrop(t, p, 3, 300)
	wantIs(t, p, "hhkhknnkkf")
	wantUnder(t, p, 2)
	wantNone(t, p, 3, 300, api.ErrChain)
	wantChain(t, opened(t, d.Copy()), 3, some(300), 3, 2)
	wantErr(t, "Abort", p.Abort(), api.OK)
	wantChain(t, p, 3, some(300), 3, 2)
	wantChain(t, p, 6, some(500), 6, 5, 4)
	wantDrop(t, p, 3, 300)
	wantDrop(t, p, 6, 500)
	wantIs(t, p, "hhhhhffkk")
	wantCommit(t, p, 9, api.OK)
	wantNone(t, p, 3, 300, api.ErrChain)
	wantNone(t, opened(t, d), 6, 500, api.ErrChain)
}

// Of a chain a page of which is not there no other page is dropped.
func TestDropOfAPartDropsNothing(t *testing.T) {
	for _, gone := range []int64{2, 3, 4, 5} {
		for _, lasts := range []bool{false, true} {
			p, _ := fresh(t, 30)
			wantPut(t, p, some(3*room+5), 5)
			if lasts {
				wantCommit(t, p, 5, api.OK)
			}
			wantErr(t, "the pager's Drop", p.Drop(gone), api.OK)
			wantNone(t, p, 5, 3*room+5, api.ErrChain)
			wantErr(t, "the pager's Drop", p.Drop(gone), api.ErrKept)
		}
	}
}

func TestDropTwice(t *testing.T) {
	p, _ := fresh(t, 30)
	wantPut(t, p, some(300), 3)
	wantCommit(t, p, 3, api.OK)
	wantDrop(t, p, 3, 300)
	wantNone(t, p, 3, 300, api.ErrChain)
	wantPut(t, p, some(300), 5)
	wantDrop(t, p, 5, 300)
	wantNone(t, p, 5, 300, api.ErrChain)
}

// P9.1: Need

func TestNeed(t *testing.T) {
	for size, want := range map[int64]int64{1: 1, 2: 1, 231: 1, 232: 1, 233: 2, 300: 2, 463: 2, 464: 2, 465: 3, 696: 3, 697: 4, 17 * room: 17, 17*room + 1: 18, 4095: 18, 4096: 18} {
		if got := chain.Need(size); got != want {
			t.Errorf("Need(%d): %d, want %d", size, got, want)
		}
	}
	for _, size := range wrong() {
		if got := chain.Need(size); got != 0 {
			t.Errorf("Need(%d): %d, want 0", size, got)
		}
	}
}

// P9.1: no pager, a broken one, in the order of the errors

func TestNoPager(t *testing.T) {
	refused, _ := pager.Open(freshDisk(t, 4))
	for what, p := range map[string]*pager.Pager{"nil": nil, "zero": {}, "of a maker that refused": refused} {
		for _, size := range append(edges(), wrong()...) {
			if size >= 0 && size <= 2*api.MaxValue {
				wantNoPut(t, p, make([]byte, size), api.ErrNil)
			}
			for _, number := range []int64{-1, 0, 1, 2, 3, api.MaxPages} {
				b, e := chain.Get(p, number, size)
				l, f := chain.Pages(p, number, size)
				if g := chain.Drop(p, number, size); b != nil || l != nil || e != api.ErrNil || f != api.ErrNil || g != api.ErrNil {
					t.Errorf("%s: Get, Pages, Drop(%d, %d): %v %v, %v %v, %v", what, number, size, b, e, l, f, g)
				}
			}
		}
		wantNoPut(t, p, nil, api.ErrNil)
	}
}

func TestBroken(t *testing.T) {
	p, d := mixed(t)
	breaks(t, p, d)
	was := p.Copy()
	for _, size := range append(edges(), wrong()...) {
		if size >= 0 && size <= 2*api.MaxValue {
			wantNoPut(t, p, make([]byte, size), api.ErrBroken)
		}
		for _, number := range []int64{-1, 0, 2, 3, 6, 8, 12, 16} {
			wantNone(t, p, number, size, api.ErrBroken)
		}
	}
	wantNone(t, p, 3, 300, api.ErrBroken)
	wantNone(t, p.Copy(), 3, 300, api.ErrBroken)
	wantNoPut(t, p, nil, api.ErrBroken)
	wantAlike(t, "a broken one", p, was)
	after, _ := d.Crash()
	wantChain(t, opened(t, after), 3, some(300), 3, 2)
}

func TestNoRoomIsLast(t *testing.T) {
	p, _ := fresh(t, 2)
	wantNoPut(t, p, nil, api.ErrArg)
	wantNoPut(t, p, some(api.MaxValue+1), api.ErrArg)
	wantNoPut(t, p, some(1), api.ErrRoom)
}

// No disk is asked by Put, and a dead one still tells what stands on it.
func TestOfADeadDisk(t *testing.T) {
	p, d := fresh(t, 20)
	wantPut(t, p, some(300), 3)
	wantCommit(t, p, 3, api.OK)
	wantErr(t, "Arm", d.Arm(api.ArmStop, 0), api.OK)
	wantErr(t, "Flush", d.Flush(), api.ErrDead)
	wantChain(t, p, 3, some(300), 3, 2)
	wantPut(t, p, some(500), 6)
	wantChain(t, p, 6, some(500), 6, 5, 4)
	wantDrop(t, p, 3, 300)
	wantNone(t, p, 3, 300, api.ErrChain)
	wantCommit(t, p, 6, api.ErrDead)
	wantChain(t, p, 3, some(300), 3, 2)
	wantNone(t, p, 6, 500, api.ErrChain)
	wantIs(t, p, "kk")
}

// P9.2: as long as its pages are not dropped

func TestLasts(t *testing.T) {
	p, d := fresh(t, 30)
	wantPut(t, p, some(1000), 6)
	wantNone(t, opened(t, d.Copy()), 6, 1000, api.ErrChain) // it is under way alone
	other := p.Copy()
	wantChain(t, p, 6, some(1000), 6, 5, 4, 3, 2)
	wantCommit(t, p, 6, api.OK)
	wantChain(t, p, 6, some(1000), 6, 5, 4, 3, 2)
	wantChain(t, opened(t, d), 6, some(1000), 6, 5, 4, 3, 2)
	after, _ := d.Crash()
	wantChain(t, opened(t, after), 6, some(1000), 6, 5, 4, 3, 2)
	wantPut(t, p, some(700), 10)
	wantErr(t, "Abort", p.Abort(), api.OK)
	wantNone(t, p, 10, 700, api.ErrChain)
	wantChain(t, p, 6, some(1000), 6, 5, 4, 3, 2)
	wantErr(t, "Abort", other.Abort(), api.OK)
	wantNone(t, other, 6, 1000, api.ErrChain)
}

func TestBehindACommitThatIsRefused(t *testing.T) {
	for steps := range 9 {
		p, d := mixed(t)
		wantErr(t, "Arm", d.Arm(api.ArmFail, steps), api.OK)
		wantDrop(t, p, 3, 300)
		e := p.Commit(8)
		wantErr(t, "Arm", d.Arm(api.ArmNone, -1), api.OK)
		after, _ := d.Crash()
		for _, q := range []*pager.Pager{p, opened(t, after)} {
			if e == api.OK {
				wantChain(t, q, 8, some(233), 8, 7)
				wantNone(t, q, 3, 300, api.ErrChain)
				continue
			}
			wantChain(t, q, 3, some(300), 3, 2)
			wantChain(t, q, 6, some(500), 6, 5, 4)
			wantNone(t, q, 8, 233, api.ErrChain)
		}
	}
}

func TestPutAndDropLeavesThePages(t *testing.T) {
	for _, size := range []int64{1, room, room + 1, 5 * room} {
		p, _ := mixed(t)
		first, e := chain.Put(p, some(size))
		wantErr(t, "Put", e, api.OK)
		wantDrop(t, p, first, size) // now what is above High stays below it
		was := p.Copy()
		again, e := chain.Put(p, some(size))
		wantErr(t, "Put", e, api.OK)
		if again != first {
			t.Errorf("Put: %d, want %d", again, first)
		}
		wantDrop(t, p, first, size)
		wantAlike(t, "a chain that was put and dropped", p, was)
	}
}

func TestSeveralBesideEachOther(t *testing.T) {
	p, d := fresh(t, 60)
	wantPut(t, p, some(300), 3)
	write(t, p, api.PageLeaf, 3, room, 4)
	wantPut(t, p, some(room), 5)
	write(t, p, api.PageBranch, 0, 0, 6)
	wantPut(t, p, some(1000), 11)
	wantPut(t, p, some(1), 12)
	for range 2 {
		wantChain(t, p, 3, some(300), 3, 2)
		wantChain(t, p, 5, some(room), 5)
		wantChain(t, p, 11, some(1000), 11, 10, 9, 8, 7)
		wantChain(t, p, 12, some(1), 12)
		wantNone(t, p, 4, room, api.ErrChain)
		wantNone(t, p, 6, 1, api.ErrChain)
		wantCommit(t, p, 4, api.OK)
		p = opened(t, d)
	}
	wantDrop(t, p, 11, 1000)
	wantChain(t, p, 3, some(300), 3, 2)
	wantChain(t, p, 5, some(room), 5)
	wantChain(t, p, 12, some(1), 12)
	wantCommit(t, p, 4, api.OK)
	wantPut(t, p, some(464), 8)
	wantChain(t, p, 8, some(464), 8, 7)
	wantIs(t, p, "kkkkknnfffkk")
}

// The chapter's examples

func TestExamples(t *testing.T) {
	p, _ := fresh(t, 8)
	wantPut(t, p, some(300), 3)
	wantChain(t, p, 3, some(300), 3, 2)
	if got := chain.Need(300); got != 2 {
		t.Errorf("Need(300): %d", got)
	}
	wantNoPut(t, p, nil, api.ErrArg)
	wantNone(t, p, 2, 300, api.ErrChain)
	wantNoPut(t, p, some(2000), api.ErrRoom)
}
