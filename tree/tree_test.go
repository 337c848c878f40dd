package tree_test

import (
	"fmt"
	"maps"
	"math"
	"slices"
	"strings"
	"testing"

	"pigeonry/api"
	"pigeonry/chain"
	"pigeonry/disk"
	"pigeonry/meta"
	"pigeonry/page"
	"pigeonry/pager"
	"pigeonry/slots"
	"pigeonry/space"
	"pigeonry/tree"
)

// strange are roots at which there is never a tree.
func strange() []int64 {
	return []int64{math.MinInt64, -1 << 32, -2, -1, 1, api.MaxPages - 1, api.MaxPages, 1 << 32, 1<<32 + 2, math.MaxInt64}
}

// long tells a key of so many bytes.
func long(key string, size int) string { return key + strings.Repeat(".", size-len(key)) }

// text tells a value of so many bytes, no two runs of which that are as long as a page are the same.
func text(size int) string {
	b := make([]byte, size)
	for i := range b {
		b[i] = byte(i*7 + i/256*13 + size)
	}
	return string(b)
}

func wantErr(t *testing.T, what string, got, want api.Errno) {
	t.Helper()
	if got != want {
		t.Errorf("%s: %v, want %v", what, got, want)
	}
}

func freshDisk(t *testing.T, pages int) *disk.Disk {
	t.Helper()
	d, e := disk.New(pages)
	if e != api.OK {
		t.Fatalf("New(%d): %v", pages, e)
	}
	return d
}

func opened(t *testing.T, d *disk.Disk) *pager.Pager {
	t.Helper()
	p, e := pager.Open(d)
	if e != api.OK || p == nil {
		t.Fatalf("Open: %v %v", p, e)
	}
	return p
}

// fresh tells a pager of a disk of so many pages, in whose store nothing stands.
func fresh(t *testing.T, pages int) (*pager.Pager, *disk.Disk) {
	t.Helper()
	d := freshDisk(t, pages)
	if e := pager.Make(d); e != api.OK {
		t.Fatalf("Make of %d pages: %v", pages, e)
	}
	return opened(t, d), d
}

// wantAlike asks whether two pagers stand alike in all that they tell.
func wantAlike(t *testing.T, what string, p, q *pager.Pager) {
	t.Helper()
	if p.Meta() != q.Meta() || !slices.Equal(p.List(), q.List()) || p.Under() != q.Under() || p.Broken() != q.Broken() {
		t.Fatalf("%s: %v %v %d %v, want %v %v %d %v", what, p.Meta(), p.List(), p.Under(), p.Broken(), q.Meta(), q.List(), q.Under(), q.Broken())
	}
	s, r := p.Space(), q.Space()
	if !space.Same(s, r) {
		t.Fatalf("%s: the space: %d %v %v %v, want %d %v %v %v", what, s.High(), s.Free(), s.New(), s.Held(), r.High(), r.Free(), r.New(), r.Held())
	}
	for number := int64(2); number < s.High(); number++ {
		a, e := p.Read(number)
		b, f := q.Read(number)
		if !page.Same(a, b) || e != f {
			t.Fatalf("%s: page %d: %v %v, want %v %v", what, number, a, e, b, f)
		}
	}
	if !disk.Same(p.Disk(), q.Disk()) {
		t.Fatalf("%s: another disk", what)
	}
}

// wantIs asks what the pages from 2 on are, a letter each: k, n, h, f; and that none is behind them.
func wantIs(t *testing.T, p *pager.Pager, want string) {
	t.Helper()
	letters := map[api.Place]byte{api.PlaceKept: 'k', api.PlaceNew: 'n', api.PlaceHeld: 'h', api.PlaceFree: 'f'}
	s := p.Space()
	var got []byte
	for number := int64(2); number < s.High(); number++ {
		got = append(got, letters[s.Is(number)])
	}
	if string(got) != want {
		t.Errorf("the space: %s, want %s", got, want)
	}
}

func wantCommit(t *testing.T, p *pager.Pager, root int64) {
	t.Helper()
	wantErr(t, fmt.Sprintf("Commit(%d)", root), p.Commit(root), api.OK)
}

// breaks breaks a pager: its commit is stopped behind the meta.
func breaks(t *testing.T, p *pager.Pager, d *disk.Disk) {
	t.Helper()
	for steps := range 20 {
		c := d.Copy()
		c.Arm(api.ArmStop, steps)
		if q := opened(t, c); q.Commit(0) != api.OK && q.Broken() {
			p.Abort()
			d.Arm(api.ArmStop, steps)
			wantErr(t, "Commit", p.Commit(0), api.ErrDead)
			break
		}
	}
	if !p.Broken() {
		t.Fatalf("it does not break")
	}
}

// drawn tells a tree as a text: 2[a b] is a leaf at page 2, 4(2[a b] c:3[c d]) a branch; of a long key just its beginning and its length are told.
func drawn(p *pager.Pager, number int64) string {
	one, e := p.Read(number)
	cells, f := slots.Parse(one.Kind, one.Body)
	if e != api.OK || f != api.OK {
		return fmt.Sprint(number, "?")
	}
	var parts []string
	for _, c := range cells {
		key := strings.TrimRight(c.Key, ".")
		if len(key) < len(c.Key) {
			key += fmt.Sprint("/", len(c.Key))
		}
		switch {
		case one.Kind == api.PageLeaf:
			parts = append(parts, key)
		case c.Key == "":
			parts = append(parts, drawn(p, c.Page))
		default:
			parts = append(parts, key+":"+drawn(p, c.Page))
		}
	}
	if one.Kind == api.PageLeaf {
		return fmt.Sprintf("%d[%s]", number, strings.Join(parts, " "))
	}
	return fmt.Sprintf("%d(%s)", number, strings.Join(parts, " "))
}

func wantDrawn(t *testing.T, p *pager.Pager, root int64, want string) {
	t.Helper()
	if got := drawn(p, root); got != want {
		t.Errorf("the tree at %d:\n%s, want\n%s", root, got, want)
	}
}

// put puts, and tells the root.
func put(t *testing.T, p *pager.Pager, root int64, key, value string) int64 {
	t.Helper()
	now, e := tree.Put(p, root, key, value)
	if e != api.OK {
		t.Fatalf("Put(%d, %q, %d bytes): %v", root, key, len(value), e)
	}
	return now
}

// drop drops what stands there, and tells the root.
func drop(t *testing.T, p *pager.Pager, root int64, key string) int64 {
	t.Helper()
	now, is, e := tree.Drop(p, root, key)
	if e != api.OK || !is {
		t.Fatalf("Drop(%d, %q): %v %v", root, key, is, e)
	}
	return now
}

// wantPairs asks for all that stands in a tree, by each call that tells it, and whether asking changes nothing.
func wantPairs(t *testing.T, p *pager.Pager, root int64, want map[string]string) {
	t.Helper()
	was := p.Copy()
	keys := sortedKeys(want)
	for _, most := range []int{len(keys), len(keys) + 1, math.MaxInt} {
		l, e := tree.From(p, root, "", most)
		if e != api.OK || len(l) != len(keys) {
			t.Fatalf("From(%d, none, %d): %d %v, want %d", root, most, len(l), e, len(keys))
		}
		for i, one := range l {
			if one.Key != keys[i] || one.Value != want[keys[i]] {
				t.Fatalf("From(%d, none, %d): pair %d: %q %d bytes, want %q %d", root, most, i, one.Key, len(one.Value), keys[i], len(want[keys[i]]))
			}
		}
	}
	for _, key := range keys {
		wantValue(t, p, root, key, want[key])
		for _, other := range []string{key + "\x00", key[:len(key)-1], key + "~"} {
			if _, is := want[other]; !is && len(other) > 0 && len(other) <= api.MaxKey {
				wantNone(t, p, root, other)
			}
		}
	}
	wantAlike(t, "asking", p, was)
}

func wantValue(t *testing.T, p *pager.Pager, root int64, key, want string) {
	t.Helper()
	if value, is, e := tree.Get(p, root, key); value != want || !is || e != api.OK {
		t.Errorf("Get(%d, %q): %q %v %v, want %q", root, key, value, is, e, want)
	}
}

func wantNone(t *testing.T, p *pager.Pager, root int64, key string) {
	t.Helper()
	if value, is, e := tree.Get(p, root, key); value != "" || is || e != api.OK {
		t.Errorf("Get(%d, %q): %q %v %v, want none", root, key, value, is, e)
	}
}

// wantDeep asks how deep a tree is, and for its pages.
func wantDeep(t *testing.T, p *pager.Pager, root int64, want int, pages ...int64) {
	t.Helper()
	if depth, e := tree.Check(p, root); depth != want || e != api.OK {
		t.Errorf("Check(%d): %d %v, want %d", root, depth, e, want)
	}
	if l, e := tree.Pages(p, root); !slices.Equal(l, pages) || e != api.OK {
		t.Errorf("Pages(%d): %v %v, want %v", root, l, e, pages)
	}
}

// refusals asks what Get, Put, Drop, From, Pages, Check and Clear answer, whether all else that they answer is zero, and whether nothing changes.
func refusals(t *testing.T, what string, p *pager.Pager, root int64, key, value string, most int) (all [7]api.Errno) {
	t.Helper()
	was := p.Copy()
	var some string
	var is, dropped bool
	var now, then int64
	var depth int
	var l []api.Pair
	var pages []int64
	some, is, all[0] = tree.Get(p, root, key)
	now, all[1] = tree.Put(p, root, key, value)
	then, dropped, all[2] = tree.Drop(p, root, key)
	l, all[3] = tree.From(p, root, key, most)
	pages, all[4] = tree.Pages(p, root)
	depth, all[5] = tree.Check(p, root)
	all[6] = tree.Clear(p, root)
	if some != "" || is || now != 0 || then != 0 || dropped || len(l) > 0 || pages != nil || depth != 0 {
		t.Errorf("%s: beside an error: %q %v, %d, %d %v, %v, %v, %d", what, some, is, now, then, dropped, l, pages, depth)
	}
	if was != nil {
		wantAlike(t, what, p, was)
	}
	return all
}

// wantRefused asks whether all calls refuse a tree.
func wantRefused(t *testing.T, what string, p *pager.Pager, root int64, key string, want api.Errno) {
	t.Helper()
	for i, e := range refusals(t, what, p, root, key, "x", 1) {
		if e != want {
			t.Errorf("%s: call %d of (%d, %q): %v, want %v", what, i, root, key, e, want)
		}
	}
}

// grown tells a tree of three levels, in which some values are chains; all that stands in it, too.
func grown(t *testing.T, p *pager.Pager) (int64, map[string]string) {
	t.Helper()
	root, pairs := int64(0), map[string]string{}
	for i := range 60 {
		key := long(fmt.Sprint("k", 10+i*7%60), 10+i%30)
		pairs[key] = text([]int{0, 1, 40, 60, 61, 300}[i%6])
		root = put(t, p, root, key, pairs[key])
	}
	if depth, e := tree.Check(p, root); depth != 3 || e != api.OK {
		t.Fatalf("Check: %d %v", depth, e)
	}
	return root, pairs
}

func sortedKeys(pairs map[string]string) []string { return slices.Sorted(maps.Keys(pairs)) }

// P10.1, P10.2: where nothing stands

func TestOfNone(t *testing.T) {
	p, _ := fresh(t, 20)
	was := p.Copy()
	wantPairs(t, p, 0, nil)
	wantDeep(t, p, 0, 0)
	wantNone(t, p, 0, "a")
	wantErr(t, "Clear", tree.Clear(p, 0), api.OK)
	if now, is, e := tree.Drop(p, 0, "a"); now != 0 || is || e != api.OK {
		t.Errorf("Drop of none: %d %v %v", now, is, e)
	}
	for _, most := range []int{0, 1, math.MaxInt} {
		if l, e := tree.From(p, 0, "a", most); len(l) != 0 || e != api.OK {
			t.Errorf("From of none: %v %v", l, e)
		}
	}
	wantAlike(t, "what is asked of none", p, was)
}

// P10.1: keys and values that may be

func TestOfEachKey(t *testing.T) {
	p, _ := fresh(t, 20)
	root, pairs := int64(0), map[string]string{}
	for _, key := range []string{"a", "\x00", "\x00\x00", "\xff", strings.Repeat("\xff", api.MaxKey), strings.Repeat("\x00", api.MaxKey), long("m", api.MaxKey), long("m", api.MaxKey-1)} {
		wantNone(t, p, root, key)
		pairs[key] = "of " + key
		root = put(t, p, root, key, pairs[key])
		wantPairs(t, p, root, pairs)
	}
	for key := range maps.Clone(pairs) {
		delete(pairs, key)
		root = drop(t, p, root, key)
		wantPairs(t, p, root, pairs)
	}
	wantDeep(t, p, root, 0)
	if root != 0 {
		t.Errorf("a tree in which nothing stands is at %d", root)
	}
}

func TestOfWrongKeys(t *testing.T) {
	p, _ := fresh(t, 20)
	root := put(t, p, 0, "a", "1")
	was := p.Copy()
	for _, key := range []string{"", long("a", api.MaxKey+1), long("a", 256), long("a", 257), long("a", 1<<20)} {
		for _, at := range append(strange(), 0, root) {
			value, is, e := tree.Get(p, at, key)
			if value != "" || is || e != api.ErrArg {
				t.Errorf("Get(%d, %d bytes): %q %v %v", at, len(key), value, is, e)
			}
			if now, e := tree.Put(p, at, key, "x"); now != 0 || e != api.ErrArg {
				t.Errorf("Put(%d, %d bytes): %d %v", at, len(key), now, e)
			}
			if now, is, e := tree.Drop(p, at, key); now != 0 || is || e != api.ErrArg {
				t.Errorf("Drop(%d, %d bytes): %d %v %v", at, len(key), now, is, e)
			}
			if key == "" {
				continue
			}
			if l, e := tree.From(p, at, key, 1); l != nil || e != api.ErrArg {
				t.Errorf("From(%d, %d bytes): %v %v", at, len(key), l, e)
			}
		}
	}
	wantAlike(t, "keys that may not be", p, was)
	wantPairs(t, p, root, map[string]string{"a": "1"})
}

func TestOfEachValue(t *testing.T) {
	for _, size := range []int{0, 1, api.MaxInline - 1, api.MaxInline, api.MaxInline + 1, 231, 232, 233, api.MaxValue - 1, api.MaxValue} {
		p, d := fresh(t, 40)
		root := put(t, p, 0, "k", text(size))
		wantPairs(t, p, root, map[string]string{"k": text(size)})
		first := int64(2)
		if size > api.MaxInline {
			first += chain.Need(int64(size))
		}
		var pages []int64
		for number := int64(2); number <= first; number++ {
			pages = append(pages, number)
		}
		wantDeep(t, p, root, 1, pages...)
		if root != first {
			t.Errorf("Put(%d bytes): %d, want %d", size, root, first)
		}
		wantCommit(t, p, root)
		wantPairs(t, opened(t, d), root, map[string]string{"k": text(size)})
		root = drop(t, p, root, "k")
		wantIs(t, p, strings.Repeat("h", int(first)-1))
		if root != 0 {
			t.Errorf("Drop(%d bytes): %d", size, root)
		}
	}
}

func TestOfWrongValues(t *testing.T) {
	p, _ := fresh(t, 80)
	root := put(t, p, 0, "a", "1")
	was := p.Copy()
	for _, size := range []int{api.MaxValue + 1, api.MaxText, 1 << 20} {
		for _, at := range append(strange(), 0, root) {
			if now, e := tree.Put(p, at, "b", text(size)); now != 0 || e != api.ErrArg {
				t.Errorf("Put(%d, %d bytes): %d %v", at, size, now, e)
			}
		}
	}
	wantAlike(t, "values that may not be", p, was)
}

// P10.1, P10.2: roots at which there is no tree

func TestOfStrangeRoots(t *testing.T) {
	p, _ := fresh(t, 120)
	root, pairs := grown(t, p)
	for _, at := range append(strange(), p.Space().High(), p.Space().High()+1) {
		wantRefused(t, "a strange root", p, at, "a", api.ErrTree)
	}
	wantPairs(t, p, root, pairs)
}

func TestOfOtherPages(t *testing.T) {
	p, d := fresh(t, 200)
	value := put(t, p, 0, "a", text(500)) // 2, 3, 4 are its chain
	other := put(t, p, 0, "b", "x")
	gone := put(t, p, 0, "c", "x")
	for range 70 { // so that there is a free list of two pages
		put(t, p, 0, "d", "x")
	}
	wantCommit(t, p, value)
	for number := gone + 1; number < p.Space().High(); number++ {
		wantErr(t, "the pager's Drop", p.Drop(number), api.OK)
	}
	wantCommit(t, p, value)
	list := p.List()
	if len(list) != 2 {
		t.Fatalf("List: %v", list)
	}
	free := p.Space().Free()[0]
	wantErr(t, "the pager's Drop", p.Drop(gone), api.OK)
	under := put(t, p, 0, "e", "x")
	wantErr(t, "the pager's Drop", p.Drop(under), api.OK)
	for what, at := range map[string]int64{"a chain's first page": 4, "a chain's last page": 2, "a page that is held": gone, "a free page": free, "a page that was dropped": under, "the free list": list[0], "the free list's last page": list[1]} {
		wantRefused(t, what, p, at, "a", api.ErrTree)
	}
	wantValue(t, opened(t, d.Copy()), gone, "c", "x") // it is held, so it stands on the disk
	wantValue(t, p, other, "b", "x")
	wantValue(t, p, value, "a", text(500))
}

// The order of the errors

func TestNoPager(t *testing.T) {
	refused, _ := pager.Open(freshDisk(t, 4))
	for what, p := range map[string]*pager.Pager{"nil": nil, "zero": {}, "of a maker that refused": refused} {
		for _, at := range append(strange(), 0, 2, 3) {
			for _, key := range []string{"", "a", long("a", api.MaxKey+1)} {
				for _, most := range []int{-1, 0, 1} {
					for i, e := range refusals(t, what, p, at, key, text(5000), most) {
						wantErr(t, fmt.Sprintf("%s: call %d of (%d, %q)", what, i, at, key), e, api.ErrNil)
					}
				}
			}
		}
	}
}

func TestBroken(t *testing.T) {
	p, d := fresh(t, 200)
	root, pairs := grown(t, p)
	wantCommit(t, p, root)
	breaks(t, p, d)
	for _, at := range append(strange(), 0, 2, root) {
		for _, key := range []string{"", "a", long("a", api.MaxKey+1)} {
			for _, most := range []int{-1, 0, 1} {
				for i, e := range refusals(t, "broken", p, at, key, text(5000), most) {
					wantErr(t, fmt.Sprintf("broken: call %d of (%d, %q)", i, at, key), e, api.ErrBroken)
				}
			}
		}
	}
	after, _ := d.Crash()
	wantPairs(t, opened(t, after), root, pairs)
}

func TestOrderOfErrors(t *testing.T) {
	p, _ := fresh(t, 3)
	root := put(t, p, 0, "a", "1") // there is no room any more
	if _, e := tree.Put(p, root, "b", text(100)); e != api.ErrRoom {
		t.Errorf("Put: %v", e)
	}
	p.Abort()
	root = put(t, p, 0, "a", "1")
	got := refusals(t, "no key, nor a tree, nor room", p, -1, "", text(100), -1)
	want := [7]api.Errno{api.ErrArg, api.ErrArg, api.ErrArg, api.ErrArg, api.ErrTree, api.ErrTree, api.ErrTree}
	if got != want {
		t.Errorf("of no key: %v, want %v", got, want)
	}
	wantRefused(t, "no tree, nor room", p, 3, "b", api.ErrTree)
	if _, e := tree.Put(p, 3, "b", text(100)); e != api.ErrTree {
		t.Errorf("Put where there is neither a tree nor room: %v", e)
	}
	if now, is, e := tree.Drop(p, root, "b"); now != root || is || e != api.OK {
		t.Errorf("Drop of none where there is no room: %d %v %v", now, is, e)
	}
	root = drop(t, p, root, "a") // that needs none
	if root != 0 {
		t.Errorf("Drop: %d", root)
	}
}

func rawMeta(t *testing.T, m api.Meta) []byte {
	t.Helper()
	b, e := meta.Raw(m)
	wantErr(t, "the meta's Raw", e, api.OK)
	return b
}

// At the last Txid the pager writes no page more.
func TestBehindTheLastTxid(t *testing.T) {
	p, d := fresh(t, 20)
	root := put(t, p, 0, "a", "1")
	wantCommit(t, p, root)
	m := p.Meta()
	m.Txid = 1 << 62
	wantErr(t, "the disk's Write", d.Write(0, rawMeta(t, m)), api.OK)
	p = opened(t, d)
	wantPairs(t, p, root, map[string]string{"a": "1"})
	for _, size := range []int{1, 100} {
		was := p.Copy()
		if now, e := tree.Put(p, root, "b", text(size)); now != 0 || e != api.ErrArg {
			t.Errorf("Put behind the last Txid: %d %v", now, e)
		}
		wantAlike(t, "Put behind the last Txid", p, was)
	}
}

// P10.1: Get, Put, Drop

func TestPutInPlaceOfAnother(t *testing.T) {
	p, _ := fresh(t, 200)
	root, pairs := grown(t, p)
	for i, key := range sortedKeys(pairs) {
		pairs[key] = text([]int{3, 61, 0, 500, 60}[i%5])
		root = put(t, p, root, key, pairs[key])
		wantPairs(t, p, root, pairs)
	}
}

func TestDropOfWhatIsNone(t *testing.T) {
	p, _ := fresh(t, 200)
	root, pairs := grown(t, p)
	was := p.Copy()
	for key := range pairs {
		for _, other := range []string{"a", "z", key + "\x00", key[:len(key)-1]} {
			if _, is := pairs[other]; is {
				continue
			}
			if now, is, e := tree.Drop(p, root, other); now != root || is || e != api.OK {
				t.Errorf("Drop(%q): %d %v %v", other, now, is, e)
			}
		}
	}
	wantAlike(t, "Drop of what is none", p, was)
}

// A page is written ahead of the elder one being dropped, the leaf ahead of the branch.
func TestPagesThatAreTaken(t *testing.T) {
	p, _ := fresh(t, 40)
	root := put(t, p, 0, "a", "1")
	wantDrawn(t, p, root, "2[a]")
	root = put(t, p, root, "c", "1")
	wantDrawn(t, p, root, "3[a c]")
	root = put(t, p, root, "b", "1")
	wantDrawn(t, p, root, "2[a b c]")
	wantIs(t, p, "nf")
	wantCommit(t, p, root) // 3 is the free list's now
	root = put(t, p, root, "d", "1")
	wantDrawn(t, p, root, "4[a b c d]")
	wantIs(t, p, "hkn")
	root = drop(t, p, root, "c")
	wantDrawn(t, p, root, "5[a b d]")
	wantIs(t, p, "hkfn")
	wantCommit(t, p, root) // 4 is the free list's, which tells 2 and 3
	wantIs(t, p, "ffkk")
	root = drop(t, p, root, "a")
	wantDrawn(t, p, root, "2[b d]")
	wantIs(t, p, "nfkh")
}

// P10.2: From

func TestFrom(t *testing.T) {
	p, _ := fresh(t, 200)
	root, pairs := grown(t, p)
	keys := sortedKeys(pairs)
	was := p.Copy()
	froms := []string{"", "\x00", "a", "k", "k1", "z", "\xff", strings.Repeat("\xff", api.MaxKey)}
	for _, key := range keys {
		froms = append(froms, key, key+"\x00", key[:len(key)-1], key+"~")
	}
	for _, from := range froms {
		at, _ := slices.BinarySearch(keys, from)
		for _, most := range []int{0, 1, 2, 3, 10, len(keys) - at - 1, len(keys) - at, len(keys) - at + 1, 1 << 40, math.MaxInt} {
			if most < 0 {
				continue
			}
			l, e := tree.From(p, root, from, most)
			want := keys[at:min(len(keys), at+min(most, len(keys)))]
			if e != api.OK || len(l) != len(want) {
				t.Fatalf("From(%q, %d): %d %v, want %d", from, most, len(l), e, len(want))
			}
			for i, one := range l {
				if one.Key != want[i] || one.Value != pairs[want[i]] {
					t.Fatalf("From(%q, %d): pair %d: %q, want %q", from, most, i, one.Key, want[i])
				}
			}
		}
	}
	for _, most := range []int{-1, -2, math.MinInt} {
		for _, at := range append(strange(), 0, root) {
			for _, from := range []string{"", "k", long("k", api.MaxKey+1)} {
				if l, e := tree.From(p, at, from, most); l != nil || e != api.ErrArg {
					t.Errorf("From(%d, %q, %d): %v %v", at, from, most, l, e)
				}
			}
		}
	}
	for _, at := range strange() {
		if l, e := tree.From(p, at, "", 0); l != nil || e != api.ErrTree {
			t.Errorf("From(%d, none, 0): %v %v", at, l, e)
		}
	}
	wantAlike(t, "From", p, was)
}

// P10.2: Pages, Check, Clear

func TestClear(t *testing.T) {
	p, d := fresh(t, 400)
	root, pairs := grown(t, p)
	other := put(t, p, 0, "other", text(300))
	pages, e := tree.Pages(p, root)
	wantErr(t, "Pages", e, api.OK)
	for _, lasts := range []bool{false, true} {
		if lasts {
			wantCommit(t, p, root)
		}
		q, place := p.Copy(), api.PlaceFree
		if lasts {
			place = api.PlaceHeld
		}
		was := q.Space()
		wantErr(t, "Clear", tree.Clear(q, root), api.OK)
		now := q.Space()
		for number := int64(2); number < now.High(); number++ {
			want := was.Is(number)
			if slices.Contains(pages, number) {
				want = place
			}
			if got := now.Is(number); got != want {
				t.Errorf("behind Clear page %d is %d, want %d", number, got, want)
			}
		}
		wantRefused(t, "what was cleared", q, root, "k", api.ErrTree)
		wantPairs(t, q, other, map[string]string{"other": text(300)})
		wantErr(t, "Abort", q.Abort(), api.OK)
	}
	wantErr(t, "Clear", tree.Clear(p, root), api.OK)
	wantPairs(t, opened(t, d.Copy()), root, pairs)
	wantErr(t, "Abort", p.Abort(), api.OK)
	wantPairs(t, p, root, pairs)
}

func TestDeep(t *testing.T) {
	p, _ := fresh(t, api.MaxPages)
	root, most := int64(0), 0
	for i := range 500 {
		root = put(t, p, root, long(fmt.Sprint(1000+i), api.MaxKey), text(60))
		depth, e := tree.Check(p, root)
		if e != api.OK || depth < most || depth > most+1 {
			t.Fatalf("Check behind %d keys: %d %v", i+1, depth, e)
		}
		most = depth
	}
	if most < 5 {
		t.Errorf("it is %d deep", most)
	}
	for i := range 500 {
		root = drop(t, p, root, long(fmt.Sprint(1000+i*7%500), api.MaxKey))
		depth, e := tree.Check(p, root)
		if e != api.OK || depth > most || depth < most-1 {
			t.Fatalf("Check behind %d drops: %d %v", i+1, depth, e)
		}
		most = depth
	}
	if most != 0 || root != 0 {
		t.Errorf("it is %d deep, at %d", most, root)
	}
}

// P10.3: what lasts

func TestLasts(t *testing.T) {
	p, d := fresh(t, 400)
	root, pairs := grown(t, p)
	wantErr(t, "Check", e2(tree.Check(opened(t, d.Copy()), root)), api.ErrTree) // it is under way alone
	wantCommit(t, p, root)
	wantPairs(t, opened(t, d.Copy()), root, pairs)
	now := root
	for i, key := range sortedKeys(pairs) {
		if i%3 == 0 {
			now = drop(t, p, now, key)
		} else {
			now = put(t, p, now, key, text(i*9))
		}
		wantPairs(t, opened(t, d.Copy()), root, pairs) // none of its pages was written over
	}
	wantErr(t, "Clear", tree.Clear(p, now), api.OK)
	after, e := d.Crash(1, 1, 1, 1)
	wantErr(t, "Crash", e, api.OK)
	wantPairs(t, opened(t, after), root, pairs)
	wantErr(t, "Abort", p.Abort(), api.OK)
	wantPairs(t, p, root, pairs)
	p = opened(t, d)
	wantPairs(t, p, root, pairs)
	now = put(t, p, root, "new", "x")
	wantCommit(t, p, now)
	pairs["new"] = "x"
	wantPairs(t, p, now, pairs)
	after, _ = d.Crash()
	wantPairs(t, opened(t, after), now, pairs)
}

// e2 tells the second one of two answers.
func e2(_ int, e api.Errno) api.Errno { return e }

// A commit that is refused leaves the tree of the last one.
func TestBehindACommitThatIsRefused(t *testing.T) {
	for steps := range 12 {
		p, d := fresh(t, 40)
		root := put(t, p, 0, "a", text(300))
		root = put(t, p, root, "b", "1")
		wantCommit(t, p, root)
		now := put(t, p, root, "a", text(61))
		now = drop(t, p, now, "b")
		wantErr(t, "Arm", d.Arm(api.ArmFail, steps), api.OK)
		e := p.Commit(now)
		wantErr(t, "Arm", d.Arm(api.ArmNone, -1), api.OK)
		after, _ := d.Crash()
		for _, q := range []*pager.Pager{p, opened(t, after)} {
			if e == api.OK {
				wantPairs(t, q, now, map[string]string{"a": text(61)})
			} else {
				wantPairs(t, q, root, map[string]string{"a": text(300), "b": "1"})
			}
		}
	}
}

// Several trees stand beside each other.
func TestSeveral(t *testing.T) {
	p, _ := fresh(t, 400)
	one, pairs := grown(t, p)
	two := put(t, p, 0, "a", "other")
	three, e := tree.Put(p, 0, "a", text(1000))
	wantErr(t, "Put", e, api.OK)
	one = put(t, p, one, "a", "1")
	pairs["a"] = "1"
	wantErr(t, "Clear", tree.Clear(p, two), api.OK)
	wantPairs(t, p, one, pairs)
	wantPairs(t, p, three, map[string]string{"a": text(1000)})
	wantErr(t, "Clear", tree.Clear(p, one), api.OK)
	wantPairs(t, p, three, map[string]string{"a": text(1000)})
}

// What is handed out is kept apart

func TestAnswersAreNewMemory(t *testing.T) {
	p, _ := fresh(t, 200)
	root, pairs := grown(t, p)
	for range 2 {
		for range 2 {
			l, _ := tree.From(p, root, "", 100)
			clear(l[:cap(l)])
			pages, _ := tree.Pages(p, root)
			clear(pages[:cap(pages)])
		}
		wantPairs(t, p, root, pairs)
		wantCommit(t, p, root)
	}
}

// The chapter's examples

func TestExamples(t *testing.T) {
	p, _ := fresh(t, 20)
	root := put(t, p, 0, "a", "1")
	if root != 2 {
		t.Errorf("Put(0, a): %d", root)
	}
	if root = put(t, p, root, "b", "2"); root != 3 {
		t.Errorf("Put(2, b): %d", root)
	}
	wantValue(t, p, root, "a", "1")
	wantNone(t, p, root, "c")
	if root = drop(t, p, root, "a"); root != 2 {
		t.Errorf("Drop(3, a): %d", root)
	}
	if root = drop(t, p, root, "b"); root != 0 {
		t.Errorf("Drop(2, b): %d", root)
	}
	wantNone(t, p, 0, "b")
	if now, e := tree.Put(p, 0, "", "x"); now != 0 || e != api.ErrArg {
		t.Errorf("Put(0, none): %d %v", now, e)
	}
}
