package catalog_test

import (
	"encoding/binary"
	"fmt"
	"slices"
	"testing"

	"pigeonry/api"
	"pigeonry/catalog"
	"pigeonry/disk"
	"pigeonry/meta"
	"pigeonry/page"
	"pigeonry/pager"
	"pigeonry/slots"
	"pigeonry/tree"
)

// P11.1, P11.2: what is refused for room

// step is one of a transaction.
type step struct {
	what             string
	name, key, value string
}

// steps are a transaction of several trees: some come to be, some go, some grow.
func steps() (all []step) {
	for i := range 8 {
		all = append(all, step{"put", "grows", fmt.Sprint(i), text(60)})
	}
	all = append(all,
		step{"put", "long", "a", text(700)},
		step{"put", "comes", "a", "1"},
		step{"drop", "goes", "a", ""},
		step{"put", "elder", "a", text(900)},
		step{"put", "goes", "b", "2"},
		step{"drop", "thin", "3", ""},
		step{"clear", "cleared", "", ""},
		step{"put", "y", "a", "1"},
		step{"drop", "y", "a", ""},
		step{"drop", "goes", "b", ""},
		step{"drop", "thin", "1", ""},
	)
	for i := range 14 {
		all = append(all, step{"put", long(fmt.Sprint(10+i), 48), "a", ""})
	}
	for i := range 8 {
		all = append(all, step{"drop", "much", fmt.Sprint(i), ""})
	}
	return all
}

// ahead is what lasts ahead of the transaction.
func ahead() shelf {
	s := shelf{"goes": {"a": "1"}, "elder": {"a": text(400), "b": ""}, "cleared": {"a": text(233), "b": "2"}}
	for i := range 8 {
		s.put("thin", fmt.Sprint(i), text(50))
		s.put("much", fmt.Sprint(i), text(58))
	}
	return s
}

// did does a step, also to what stands, and to one on which all is done as the chapter tells.
func (s step) did(t *testing.T, c *catalog.Catalog, m *told, now shelf) api.Errno {
	t.Helper()
	var is, want bool
	var e, err api.Errno
	switch s.what {
	case "put":
		e, err = c.Put(s.name, s.key, s.value), m.put(s.name, s.key, s.value)
	case "drop":
		is, e = c.Drop(s.name, s.key)
		want, err = m.drop(s.name, s.key)
	case "clear":
		is, e = c.Clear(s.name)
		want, err = m.clear(s.name)
	}
	if is != want || e != err || is && e != api.OK {
		t.Fatalf("%v: %v %v, want %v %v", s, is, e, want, err)
	}
	if e == api.OK {
		switch s.what {
		case "put":
			now.put(s.name, s.key, s.value)
		case "drop":
			now.drop(s.name, s.key)
		case "clear":
			delete(now, s.name)
		}
	}
	return e
}

func TestRefusedForRoomInEachPlace(t *testing.T) {
	places := map[string]int{}
	full := ahead()
	c, _ := fresh(t, 1000)
	stocked(t, c, full)
	wantCommit(t, c)
	least := int(c.Meta().High)
	lasted := 0
	for pages := least; pages < least+80; pages++ {
		what := fmt.Sprint(pages, " pages")
		c, d := fresh(t, pages)
		stocked(t, c, full)
		wantCommit(t, c)
		m := tell(t, d.Copy())
		now := full.apart()
		for i, s := range steps() {
			e := s.did(t, c, m, now)
			wantTold(t, what, c, m)
			if e == api.OK {
				continue
			}
			wantErr(t, what, e, api.ErrRoom)
			places[fmt.Sprint(s.what, " ", s.name)]++
			wantLasts(t, fmt.Sprintf("%s, step %d", what, i), c, d, full)
			now = full.apart()
		}
		wantAll(t, what, c, now)
		e := c.Commit()
		wantErr(t, what+": Commit", e, m.commit())
		wantTold(t, what, c, m)
		switch e {
		case api.OK:
			lasted++
			wantLasts(t, what, c, d, now)
		case api.ErrRoom:
			places["commit "+m.refused]++
			wantLasts(t, what, c, d, full)
		default:
			t.Errorf("%s: Commit: %v", what, e)
		}
		wantErr(t, what+": it goes on", c.Abort(), api.OK)
	}
	for _, place := range []string{"put grows", "put long", "put comes", "put elder", "drop thin", "put " + long("15", 48), "drop much", "commit own tree", "commit free list"} {
		if places[place] == 0 {
			t.Errorf("%s was not refused: %v", place, places)
		}
	}
	if places["drop goes"] > 0 || lasted == 0 { // to drop the last key of a tree no page is needed
		t.Errorf("%d lasted; refused: %v", lasted, places)
	}
}

// Behind what is refused for room there is room again for what needs less.
func TestRefusedForRoomGoesOn(t *testing.T) {
	c, d := fresh(t, 10)
	put(t, c, "x", "a", "1")
	wantCommit(t, c)
	for range 20 {
		put(t, c, "y", "a", "2")
		wantDrop(t, c, "x", "a", true)
		wantErr(t, "Put", c.Put("z", "a", text(4000)), api.ErrRoom)
		wantLasts(t, "refused for room", c, d, shelf{"x": {"a": "1"}})
	}
	put(t, c, "y", "a", "2")
	wantCommit(t, c)
	wantLasts(t, "it goes on", c, d, shelf{"x": {"a": "1"}, "y": {"a": "2"}})
}

// P11.3: what the disk refuses

// picked are the picks of a crash, which leaves what waits in another way each time.
func picked(n int) (picks []int) {
	d := dice(n)
	for range 200 {
		switch n {
		case 0:
			return nil
		case 1:
			picks = append(picks, -1)
		default:
			picks = append(picks, d.roll(3))
		}
	}
	return picks
}

// wantCrashes asks what crashes of a disk leave: what lasted, or, if it broke, perhaps what broke it.
func wantCrashes(t *testing.T, what string, d *disk.Disk, lasts shelf, broken bool, broke shelf) (others int) {
	t.Helper()
	for n := range 6 {
		x, e := d.Crash(picked(n)...)
		if e != api.OK {
			t.Fatalf("%s: Crash: %v", what, e)
		}
		o := opened(t, x)
		if broken && all(t, o).same(broke) {
			others++
			continue
		}
		wantLasts(t, fmt.Sprintf("%s: crash %d", what, n), o, x, lasts)
	}
	return others
}

func TestRefusedByTheDiskInEachStep(t *testing.T) {
	full := ahead()
	others, broken, lasted := 0, 0, 0
	for _, kind := range []api.Arm{api.ArmStop, api.ArmFail} {
		want := map[api.Arm]api.Errno{api.ArmStop: api.ErrDead, api.ArmFail: api.ErrFault}[kind]
		for count := 0; count < 200; count++ {
			what := fmt.Sprintf("armed with %d and %d", kind, count)
			c, d := fresh(t, 200)
			stocked(t, c, full)
			wantCommit(t, c)
			m := tell(t, d.Copy())
			now := full.apart()
			for _, s := range steps() {
				wantErr(t, what, s.did(t, c, m, now), api.OK)
			}
			wantCrashes(t, what+": under way", d, full, false, nil)
			d.Arm(kind, count)
			e := c.Commit()
			if e == api.OK {
				lasted++
				wantLasts(t, what, c, d, now)
				wantCrashes(t, what, d, now, false, nil)
				break
			}
			wantErr(t, what, e, want)
			if wantChanged(t, what, c, false); c.Broken() {
				broken++
				others += wantCrashes(t, what, d, full, true, now)
				continue
			}
			wantCrashes(t, what, d, full, false, nil)
			wantLasts(t, what, c, d, full)
			if kind == api.ArmFail { // it goes on
				m := tell(t, d.Copy())
				again := full.apart()
				for _, s := range steps() {
					wantErr(t, what, s.did(t, c, m, again), api.OK)
				}
				wantCommit(t, c)
				wantLasts(t, what+": it goes on", c, d, now)
				wantCrashes(t, what+": it goes on", d, now, false, nil)
			}
		}
	}
	if others == 0 || broken == 0 || lasted != 2 {
		t.Errorf("%d broke, crashes left what broke it %d times, %d lasted", broken, others, lasted)
	}
}

// What a crash leaves right ahead of a commit, and right behind it.
func TestCrashes(t *testing.T) {
	c, d := fresh(t, 100)
	lasts := shelf{}
	for i := range 30 {
		name := fmt.Sprint("n", i%7)
		now := lasts.apart()
		now.put(name, fmt.Sprint(i), text(i*29))
		put(t, c, name, fmt.Sprint(i), text(i*29))
		if i > 5 {
			gone := fmt.Sprint("n", (i+3)%7)
			if _, is := now[gone]; is && i%3 == 0 {
				wantClear(t, c, gone, true)
				delete(now, gone)
			}
		}
		wantCrashes(t, "ahead of a commit", d, lasts, false, nil)
		if i%4 == 3 {
			wantAbort(t, c)
			wantCrashes(t, "behind an abort", d, lasts, false, nil)
			continue
		}
		wantCommit(t, c)
		lasts = now
		wantCrashes(t, "behind a commit", d, lasts, false, nil)
	}
}

// P11.1: Open of a store that is no catalog's

// laid lays a store, whose own tree has the names and values that are told by who lays what stands ahead of them.
func laid(t *testing.T, before func(p *pager.Pager) []api.Pair) *disk.Disk {
	t.Helper()
	d := freshDisk(t, 200)
	pager.Make(d)
	p, e := pager.Open(d)
	if e != api.OK {
		t.Fatalf("Open: %v", e)
	}
	own := int64(0)
	for _, pair := range before(p) {
		if own, e = tree.Put(p, own, pair.Key, pair.Value); e != api.OK {
			t.Fatalf("Put: %v", e)
		}
	}
	if e := p.Commit(own); e != api.OK {
		t.Fatalf("Commit: %v", e)
	}
	return d
}

// number tells a root in four bytes.
func number(n int64) string { return string(binary.BigEndian.AppendUint32(nil, uint32(n))) }

// planted puts some pairs into a tree of its own.
func planted(t *testing.T, p *pager.Pager, pairs ...string) int64 {
	t.Helper()
	root := int64(0)
	for i := 0; i < len(pairs); i += 2 {
		now, e := tree.Put(p, root, pairs[i], pairs[i+1])
		if e != api.OK {
			t.Fatalf("Put: %v", e)
		}
		root = now
	}
	return root
}

// written writes a page, of cells or any other.
func written(t *testing.T, p *pager.Pager, k api.PageKind, next int64, cells ...api.Cell) int64 {
	t.Helper()
	b, e := slots.Raw(k, cells)
	if e != api.OK {
		b = []byte("no cells")
	}
	n, e := p.Write(k, next, b)
	if e != api.OK {
		t.Fatalf("Write: %v", e)
	}
	return n
}

// What is laid by hand as a catalog lays it is opened.
func TestOpenOfWhatIsLaid(t *testing.T) {
	d := laid(t, func(p *pager.Pager) []api.Pair {
		return []api.Pair{{Key: "x", Value: number(planted(t, p, "a", "1", "b", text(300)))}, {Key: "y", Value: number(planted(t, p, "a", "2"))}}
	})
	c := opened(t, d)
	s := shelf{"x": {"a": "1", "b": text(300)}, "y": {"a": "2"}}
	wantLasts(t, "laid", c, d, s)
	put(t, c, "y", "b", "3")
	wantCommit(t, c)
	s.put("y", "b", "3")
	wantLasts(t, "laid", c, d, s)
}

func TestOpenOfOtherValues(t *testing.T) {
	for what, value := range map[string]func(root string) string{
		"no bytes":      func(root string) string { return "" },
		"three bytes":   func(root string) string { return root[1:] },
		"a byte":        func(root string) string { return root[3:] },
		"a nought more": func(root string) string { return root + "\x00" },
		"it twice":      func(root string) string { return root + root },
		"eight bytes":   func(root string) string { return "\x00\x00\x00\x00" + root },
		"60 bytes":      func(root string) string { return root + text(56) },
		"a chain":       func(root string) string { return root + text(57) },
		"a longer one":  func(root string) string { return root + text(600) },
		"turned round":  func(root string) string { return root[3:] + root[:3] },
		"digits":        func(root string) string { return fmt.Sprint(root[3]) },
	} {
		for _, name := range []string{"w", "y"} {
			for _, right := range []bool{false, true} {
				d := laid(t, func(p *pager.Pager) []api.Pair {
					root := number(planted(t, p, "a", "1"))
					if !right {
						root = value(root)
					}
					return []api.Pair{{Key: "x", Value: number(planted(t, p, "b", "2"))}, {Key: name, Value: root}}
				})
				if right {
					wantAll(t, "laid", opened(t, d), shelf{"x": {"b": "2"}, name: {"a": "1"}})
					continue
				}
				wantNotOpened(t, "a value of "+what, d, api.ErrStore)
			}
		}
	}
}

func TestOpenOfOtherRoots(t *testing.T) {
	for what, root := range map[string]func(p *pager.Pager) int64{
		"none":                   func(p *pager.Pager) int64 { return 0 },
		"a meta's":               func(p *pager.Pager) int64 { return 1 },
		"above High":             func(p *pager.Pager) int64 { return 100 },
		"above all pages":        func(p *pager.Pager) int64 { return api.MaxPages },
		"above all pages by far": func(p *pager.Pager) int64 { return 1<<32 - 1 },
		"a chain": func(p *pager.Pager) int64 {
			n, _ := p.Write(api.PageChain, 0, []byte("bytes"))
			return n
		},
		"a leaf of no cells":   func(p *pager.Pager) int64 { return written(t, p, api.PageLeaf, 0) },
		"a leaf that leads on": func(p *pager.Pager) int64 { return written(t, p, api.PageLeaf, 2, api.Cell{Key: "a", Text: "1"}) },
		"a branch of one cell": func(p *pager.Pager) int64 {
			return written(t, p, api.PageBranch, 0, api.Cell{Page: planted(t, p, "a", "1")})
		},
		"a chain of another size": func(p *pager.Pager) int64 {
			return written(t, p, api.PageLeaf, 0, api.Cell{Key: "a", Long: true, Page: chained(t, p), Size: 301})
		},
		"a page that is free": func(p *pager.Pager) int64 {
			n := planted(t, p, "a", "1")
			p.Commit(0)
			p.Drop(n)
			return n
		},
		"a branch of leaves unordered": func(p *pager.Pager) int64 {
			return written(t, p, api.PageBranch, 0, api.Cell{Page: planted(t, p, "b", "1")}, api.Cell{Key: "c", Page: planted(t, p, "b", "1")})
		},
		"leaves that are not as deep": func(p *pager.Pager) int64 {
			below := written(t, p, api.PageBranch, 0, api.Cell{Page: planted(t, p, "b", "1")}, api.Cell{Key: "c", Page: planted(t, p, "c", "1")})
			return written(t, p, api.PageBranch, 0, api.Cell{Page: below}, api.Cell{Key: "d", Page: planted(t, p, "d", "1")})
		},
		"a page twice": func(p *pager.Pager) int64 {
			n := chained(t, p)
			return written(t, p, api.PageLeaf, 0, api.Cell{Key: "a", Long: true, Page: n, Size: 300}, api.Cell{Key: "b", Long: true, Page: n, Size: 300})
		},
	} {
		d := laid(t, func(p *pager.Pager) []api.Pair {
			return []api.Pair{{Key: "x", Value: number(planted(t, p, "b", "2"))}, {Key: "y", Value: number(root(p))}, {Key: "z", Value: number(planted(t, p, "c", "3"))}}
		})
		wantNotOpened(t, "a root that is "+what, d, api.ErrStore)
	}
}

// Of all numbers just one is a root there: that of a tree that has no name yet.
func TestOpenOfEachNumber(t *testing.T) {
	kinds := map[string]int{}
	for n := range int64(40) {
		var x, z int64
		d := laid(t, func(p *pager.Pager) []api.Pair {
			gone := planted(t, p, "a", "1", "b", text(400))
			x = planted(t, p, "a", "1", "b", text(300))
			p.Commit(gone)
			tree.Clear(p, gone)
			z = planted(t, p, "c", "3")
			return []api.Pair{{Key: "x", Value: number(x)}, {Key: "y", Value: number(n)}}
		})
		if n == z {
			wantAll(t, "laid", opened(t, d), shelf{"x": {"a": "1", "b": text(300)}, "y": {"c": "3"}})
			continue
		}
		wantNotOpened(t, fmt.Sprint("root ", n), d, api.ErrStore)
		p, _ := pager.Open(d)
		switch {
		case slices.Contains(p.List(), n):
			kinds["of the free list"]++
		case p.Space().Is(n) == api.PlaceFree:
			kinds["free"]++
		case n == p.Meta().Root:
			kinds["the own tree's"]++
		}
	}
	if len(kinds) != 3 {
		t.Errorf("there were %v", kinds)
	}
}

// chained lays a chain of 300 bytes.
func chained(t *testing.T, p *pager.Pager) int64 {
	t.Helper()
	last, e := p.Write(api.PageChain, 0, []byte(text(300)[232:]))
	first, err := p.Write(api.PageChain, last, []byte(text(300)[:232]))
	if e != api.OK || err != api.OK {
		t.Fatalf("Write: %v %v", e, err)
	}
	return first
}

// Pages of two trees, the own one among them, are none's.
func TestOpenOfPagesOfTwoTrees(t *testing.T) {
	for what, lay := range map[string]func(p *pager.Pager) []api.Pair{
		"a root": func(p *pager.Pager) []api.Pair {
			n := planted(t, p, "a", "1")
			return []api.Pair{{Key: "x", Value: number(n)}, {Key: "y", Value: number(n)}}
		},
		"a leaf": func(p *pager.Pager) []api.Pair {
			n := planted(t, p, "a", "1")
			root := written(t, p, api.PageBranch, 0, api.Cell{Page: n}, api.Cell{Key: "b", Page: planted(t, p, "b", "2")})
			return []api.Pair{{Key: "x", Value: number(root)}, {Key: "y", Value: number(n)}}
		},
		"a chain": func(p *pager.Pager) []api.Pair {
			n := chained(t, p)
			x := written(t, p, api.PageLeaf, 0, api.Cell{Key: "a", Long: true, Page: n, Size: 300})
			y := written(t, p, api.PageLeaf, 0, api.Cell{Key: "b", Long: true, Page: n, Size: 300})
			return []api.Pair{{Key: "x", Value: number(x)}, {Key: "y", Value: number(y)}}
		},
		"the own root": func(p *pager.Pager) []api.Pair {
			return []api.Pair{{Key: "x", Value: number(2)}} // that is where it will stand
		},
	} {
		d := laid(t, lay)
		wantNotOpened(t, what+" of two trees", d, api.ErrStore)
	}
}

func TestOpenOfAnotherRoot(t *testing.T) {
	for what, root := range map[string]func(p *pager.Pager) int64{
		"a chain":            func(p *pager.Pager) int64 { return chained(t, p) },
		"a leaf of no cells": func(p *pager.Pager) int64 { return written(t, p, api.PageLeaf, 0) },
		"a tree of values":   func(p *pager.Pager) int64 { return planted(t, p, "a", "1", "b", text(300)) },
	} {
		d := freshDisk(t, 20)
		pager.Make(d)
		p, _ := pager.Open(d)
		if e := p.Commit(root(p)); e != api.OK {
			t.Fatalf("Commit: %v", e)
		}
		wantNotOpened(t, "the root is "+what, d, api.ErrStore)
	}
}

// A page that is nobody's is no tree's, so that all trees are some still.
func TestOpenOfAPageThatIsNobodys(t *testing.T) {
	d := laid(t, func(p *pager.Pager) []api.Pair {
		chained(t, p)
		return []api.Pair{{Key: "x", Value: number(planted(t, p, "a", "1"))}}
	})
	c := opened(t, d)
	wantAll(t, "a page is nobody's", c, shelf{"x": {"a": "1"}})
	pages, list, free, e := c.Pages()
	if got := len(pages) + len(list) + len(free); e != api.OK || int64(got) != c.Meta().High-2-2 {
		t.Errorf("Pages: %v %v %v %v", pages, list, free, e)
	}
}

// Where bits of any page are turned that is somebody's, there is no store any more; where they are of a meta, the other one counts.
func TestOpenOfTurnedBits(t *testing.T) {
	c, d := fresh(t, 200)
	s := few()
	for i := range 40 {
		s.put(long(fmt.Sprint(i), 20), "k", "1")
		s.put("big", fmt.Sprint(i), text(i*11%300))
	}
	stocked(t, c, s)
	wantCommit(t, c)
	wantDrop(t, c, "big", "7", true)
	wantCommit(t, c)
	pages, list, free, _ := c.Pages()
	if len(pages) < 50 || len(list) == 0 || len(free) == 0 {
		t.Fatalf("Pages: %v %v %v", pages, list, free)
	}
	turned := func(numbers ...int64) *disk.Disk {
		o := d.Copy()
		for _, n := range numbers {
			b, _ := o.Read(int(n))
			b[n*37%api.PageSize] ^= 1 << (n % 8)
			o.Write(int(n), b)
		}
		o.Flush()
		return o
	}
	for _, n := range slices.Concat(pages, list) {
		wantNotOpened(t, fmt.Sprint("page ", n), turned(n), api.ErrStore)
	}
	wantLasts(t, "free pages are others", opened(t, turned(free...)), turned(free...), all(t, c))
	wantNotOpened(t, "both metas", turned(0, 1), api.ErrMeta)
	wantNotOpened(t, "both metas and a tree", turned(0, 1, pages[0]), api.ErrMeta)
	wantAll(t, "the meta that does not count", opened(t, turned(meta.Where(c.Meta().Txid+1))), all(t, c))
}

// What other hands do to the disk while it is open

// Where a tree is none any more, what asks for it is refused; nothing changes, and other trees go on.
func TestATreeThatIsNoneAnyMore(t *testing.T) {
	c, d := fresh(t, 60)
	put(t, c, "x", "a", "1")
	put(t, c, "y", "a", "1")
	wantCommit(t, c)
	put(t, c, "x", "b", "2")
	d.Write(3, make([]byte, api.PageSize)) // x is at 2, y at 3
	was := c.Copy()
	a, refused := ask(c, "y", "a", "1", 1)
	_, _, _, refused["Pages"] = c.Pages()
	for call, e := range refused {
		wantErr(t, call, e, api.ErrTree)
	}
	if !a.zero() || !c.Changed() || c.Under() != was.Under() {
		t.Errorf("beside an error: %v; changed %v, %d under way", a, c.Changed(), c.Under())
	}
	wantValue(t, c, "x", "b", "2")
	wantNames(t, c, "x", "y")
	wantCommit(t, c)
	wantNotOpened(t, "a tree that is none any more", d, api.ErrStore)
}

// Where its own tree is none any more.
func TestAnOwnTreeThatIsNoneAnyMore(t *testing.T) {
	c, d := fresh(t, 60)
	put(t, c, "x", "a", "1")
	wantCommit(t, c)
	put(t, c, "y", "a", "1")
	d.Write(int(c.Meta().Root), make([]byte, api.PageSize))
	a, refused := ask(c, "x", "a", "1", 1)
	a.names, refused["Names"] = c.Names()
	a.pages, a.list, a.free, refused["Pages"] = c.Pages()
	for call, e := range refused {
		wantErr(t, call, e, api.ErrTree)
	}
	if !a.zero() || !c.Changed() {
		t.Errorf("beside an error: %v; changed %v", a, c.Changed())
	}
	wantValue(t, c, "y", "a", "1")
	wantErr(t, "Commit", c.Commit(), api.ErrTree)
	if c.Changed() || c.Under() > 0 {
		t.Errorf("a commit that is refused does not abort")
	}
}

// Behind the greatest Txid nothing may be written, nor committed.
func TestTheGreatestTxid(t *testing.T) {
	const most = 1 << 62
	c, d := fresh(t, 60)
	stocked(t, c, few())
	wantCommit(t, c)
	m := c.Meta()
	m.Txid = most - 1
	b, e := meta.Raw(m)
	if e != api.OK {
		t.Fatalf("Raw: %v", e)
	}
	d.Write(int(meta.Where(m.Txid)), b)
	d.Flush()
	c = opened(t, d)
	put(t, c, "x", "c", "3")
	wantCommit(t, c)
	s := few()
	s.put("x", "c", "3")
	wantLasts(t, "the greatest Txid", c, d, s)
	if c.Meta().Txid != most {
		t.Fatalf("Meta: %v", c.Meta())
	}
	for _, change := range []func() api.Errno{
		func() api.Errno { return c.Put("x", "c", "4") },
		func() api.Errno { return c.Put("y", "a", "in place of a chain") },
		func() api.Errno { return c.Put("y", "a", text(600)) },
		func() api.Errno { _, e := c.Drop("x", "a"); return e },
	} {
		wantClear(t, c, "z", true)
		wantErr(t, "behind the greatest Txid", change(), api.ErrArg)
		wantLasts(t, "behind the greatest Txid", c, d, s)
	}
	wantClear(t, c, "z", true)
	wantErr(t, "Commit", c.Commit(), api.ErrArg)
	wantLasts(t, "behind the greatest Txid", c, d, s)
	wantErr(t, "Commit", c.Commit(), api.ErrArg)
	wantErr(t, "Abort", c.Abort(), api.OK)
}

// What stands on the disk is pages of layer 4, of the Txids of the commits that wrote them; none that lasts is written over.
func TestNoPageThatLastsIsWrittenOver(t *testing.T) {
	c, d := fresh(t, 150)
	dice := dice(7)
	for i := range 60 {
		was, m := d.Copy(), c.Meta()
		lasting, list, _, _ := c.Pages()
		for range 5 {
			name := fmt.Sprint("n", dice.roll(5))
			if dice.roll(3) == 0 {
				c.Drop(name, fmt.Sprint(dice.roll(4)))
			} else {
				c.Put(name, fmt.Sprint(dice.roll(4)), text(dice.roll(400)))
			}
		}
		wantCommit(t, c)
		for _, n := range append(slices.Concat(lasting, list), meta.Where(m.Txid)) {
			a, _ := was.Read(int(n))
			b, _ := d.Read(int(n))
			if string(a) != string(b) {
				t.Fatalf("commit %d: page %d, which lasted, is another one", i, n)
			}
		}
		pages, list, _, _ := c.Pages()
		for _, n := range slices.Concat(pages, list) {
			b, _ := d.Read(int(n))
			one, e := page.Parse(n, b)
			if e != api.OK || one.Txid > c.Meta().Txid || !slices.Contains(lasting, n) && one.Txid != c.Meta().Txid {
				t.Fatalf("commit %d: page %d: %v %v", i, n, one.Txid, e)
			}
		}
	}
}
