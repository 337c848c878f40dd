package tree_test

import (
	"fmt"
	"maps"
	"math/bits"
	"slices"
	"strings"
	"testing"

	"pigeonry/api"
	"pigeonry/chain"
	"pigeonry/disk"
	"pigeonry/pager"
	"pigeonry/slots"
	"pigeonry/tree"
)

// told does what the chapter tells, word for word, on a pager of its own: each page is written as soon as it is known what stands in it.
type told struct{ q *pager.Pager }

// try does something up to what is refused.
func try(do func()) (e api.Errno) {
	defer func() {
		if why, refused := recover().(api.Errno); refused {
			e = why
		}
	}()
	do()
	return api.OK
}

// ask goes on only where nothing was refused.
func ask[T any](answer T, e api.Errno) T {
	if e != api.OK {
		panic(e)
	}
	return answer
}

func (m told) cells(number int64) (api.PageKind, []api.Cell) {
	one := ask(m.q.Read(number))
	return one.Kind, ask(slots.Parse(one.Kind, one.Body))
}

func (m told) drop(pages ...int64) {
	for _, number := range pages {
		if e := m.q.Drop(number); e != api.OK {
			panic(e)
		}
	}
}

func (m told) page(k api.PageKind, cells []api.Cell) int64 {
	return ask(m.q.Write(k, 0, ask(slots.Raw(k, cells))))
}

// pages writes cells, halved if they do not fit; it tells the cells of the branch above, the first one by a Key.
func (m told) pages(k api.PageKind, cells []api.Cell, key string) []api.Cell {
	if _, e := slots.Raw(k, cells); e == api.OK {
		return []api.Cell{{Key: key, Page: m.page(k, cells)}}
	}
	left, right, e := slots.Halve(k, cells)
	if e != api.OK {
		panic(e)
	}
	first := api.Cell{Key: key, Page: m.page(k, left)}
	second := api.Cell{Key: right[0].Key}
	if k == api.PageBranch {
		right[0].Key = ""
	}
	second.Page = m.page(k, right)
	return []api.Cell{first, second}
}

// toward tells below which cell of a branch a key stands.
func toward(cells []api.Cell, key string) int {
	at := 0
	for i, c := range cells {
		if c.Key <= key {
			at = i
		}
	}
	return at
}

// find tells the cell of a key.
func (m told) find(root int64, key string) (c api.Cell, is bool) {
	if root == 0 {
		return api.Cell{}, false
	}
	k, cells := m.cells(root)
	if k == api.PageBranch {
		return m.find(cells[toward(cells, key)].Page, key)
	}
	for _, c := range cells {
		if c.Key == key {
			return c, true
		}
	}
	return api.Cell{}, false
}

// dropElder drops the chain of a cell that was found.
func (m told) dropElder(c api.Cell) {
	if c.Long {
		if e := chain.Drop(m.q, c.Page, c.Size); e != api.OK {
			panic(e)
		}
	}
}

// with writes a page anew with a cell, and those below; it tells the cells that lead there then.
func (m told) with(number int64, stood string, c api.Cell) []api.Cell {
	k, cells := m.cells(number)
	var now []api.Cell
	if k == api.PageLeaf {
		put := false
		for _, one := range cells {
			if !put && one.Key >= c.Key {
				now, put = append(now, c), true
			}
			if one.Key != c.Key {
				now = append(now, one)
			}
		}
		if !put {
			now = append(now, c)
		}
	} else {
		at := toward(cells, c.Key)
		now = append(now, cells[:at]...)
		now = append(now, m.with(cells[at].Page, cells[at].Key, c)...)
		now = append(now, cells[at+1:]...)
	}
	heads := m.pages(k, now, stood)
	m.drop(number)
	return heads
}

// top tells the root of what one page became.
func (m told) top(heads []api.Cell) int64 {
	if len(heads) == 1 {
		return heads[0].Page
	}
	return m.page(api.PageBranch, heads)
}

func (m told) put(root int64, key, value string) (now int64, e api.Errno) {
	if m.q.Broken() {
		return 0, api.ErrBroken
	}
	if len(key) < 1 || len(key) > 48 || len(value) > 4096 {
		return 0, api.ErrArg
	}
	e = try(func() {
		elder, is := m.find(root, key)
		c := api.Cell{Key: key, Text: value}
		if len(value) > 60 {
			c = api.Cell{Key: key, Long: true, Page: ask(chain.Put(m.q, []byte(value))), Size: int64(len(value))}
		}
		if is {
			m.dropElder(elder)
		}
		if root == 0 {
			now = m.page(api.PageLeaf, []api.Cell{c})
			return
		}
		now = m.top(m.with(root, "", c))
	})
	return now, e
}

// without tells what a page has without a key; what is below is written.
func (m told) without(number int64, key string) (api.PageKind, []api.Cell) {
	k, cells := m.cells(number)
	if k == api.PageLeaf {
		return k, slices.DeleteFunc(cells, func(c api.Cell) bool { return c.Key == key })
	}
	at := toward(cells, key)
	below, now := m.without(cells[at].Page, key)
	first, last := at, at
	size, _ := slots.Size(below, now)
	if (size < 76 || below == api.PageBranch && len(now) == 1) && len(cells) > 1 {
		if at+1 < len(cells) {
			last++
			_, others := m.cells(cells[last].Page)
			if below == api.PageBranch {
				others[0].Key = cells[last].Key
			}
			now = slices.Concat(now, others)
		} else {
			first--
			_, others := m.cells(cells[first].Page)
			if below == api.PageBranch {
				now[0].Key = cells[last].Key
			}
			now = slices.Concat(others, now)
		}
	}
	heads := m.pages(below, now, cells[first].Key)
	for _, c := range cells[first : last+1] {
		m.drop(c.Page)
	}
	return k, slices.Concat(cells[:first], heads, cells[last+1:])
}

func (m told) dropKey(root int64, key string) (now int64, is bool, e api.Errno) {
	if m.q.Broken() {
		return 0, false, api.ErrBroken
	}
	if len(key) < 1 || len(key) > 48 {
		return 0, false, api.ErrArg
	}
	e = try(func() {
		elder, stands := m.find(root, key)
		if !stands {
			now = root
			return
		}
		m.dropElder(elder)
		k, cells := m.without(root, key)
		switch {
		case len(cells) == 0:
		case k == api.PageBranch && len(cells) == 1:
			now = cells[0].Page
		default:
			heads := m.pages(k, cells, "")
			m.drop(root)
			root, now = 0, m.top(heads)
		}
		if root != 0 {
			m.drop(root)
		}
		is = true
	})
	return now, is, e
}

// all tells all pages of a tree, rising, and how deep it is.
func (m told) all(root int64) (pages []int64, depth int) {
	if root == 0 {
		return nil, 0
	}
	k, cells := m.cells(root)
	pages = []int64{root}
	for _, c := range cells {
		var below []int64
		if k == api.PageBranch {
			below, depth = m.all(c.Page)
		} else if c.Long {
			below = ask(chain.Pages(m.q, c.Page, c.Size))
		}
		pages = append(pages, below...)
	}
	slices.Sort(pages)
	return pages, depth + 1
}

// dice tells numbers that are the same each time.
type dice uint32

func (d *dice) roll(n int) int {
	*d = *d*1664525 + 1013904223
	return int(uint64(bits.RotateLeft32(uint32(*d), 16)) % uint64(n))
}

// key tells one of so many; the way in which they are alike hangs on the style.
func (d *dice) key(style, many int) string {
	n := d.roll(many)
	switch style % 4 {
	case 0:
		return fmt.Sprint(n)
	case 1:
		return strings.Repeat("k", 44) + fmt.Sprint(1000+n) // all alike ahead
	case 2:
		return long(fmt.Sprint(1000+n), 4+n*7%45)
	}
	return string([]byte{byte(n), 0, byte(n * 3)})[:1+n%3]
}

// value tells one: most stand in a cell.
func (d *dice) value(longest int) string {
	switch d.roll(12) {
	case 0:
		return text(61 + d.roll(longest))
	case 1:
		return text(60 + d.roll(2))
	case 2, 3:
		return ""
	}
	return text(d.roll(61))
}

// wantLeft asks whether just those pages are left behind that are of the elder tree and not of the new one, whether those that are new are of the new one, and whether all others are what they were.
func wantLeft(t *testing.T, what string, was, now *pager.Pager, elder, pages []int64) {
	t.Helper()
	a, b := was.Space(), now.Space()
	for number := int64(2); number < b.High(); number++ {
		before, behind := a.Is(number), b.Is(number)
		of, in := slices.Contains(elder, number), slices.Contains(pages, number)
		want := before
		switch {
		case of && !in && before == api.PlaceKept:
			want = api.PlaceHeld
		case of && !in:
			want = api.PlaceFree
		case in && !of:
			want = api.PlaceNew
			if before == api.PlaceKept || before == api.PlaceHeld || before == api.PlaceNew {
				t.Fatalf("%s: page %d was taken, and was %d", what, number, before)
			}
		}
		if behind != want {
			t.Fatalf("%s: page %d is %d and was %d (of the elder tree: %v, of the new one: %v)", what, number, behind, before, of, in)
		}
	}
}

// P10.1 to P10.4: keys that are put and dropped in each order.
func TestAllOfOrders(t *testing.T) {
	many := 40
	orders := map[string]func(i int) int{
		"rising":  func(i int) int { return i },
		"falling": func(i int) int { return many - 1 - i },
		"mixed":   func(i int) int { return i * 17 % many },
		"inward":  func(i int) int { return (i%2)*(many-1) + (1-i%2*2)*(i/2) },
	}
	for style := range 3 {
		for put, putting := range orders {
			for gone, dropping := range orders {
				what := fmt.Sprintf("style %d, put %s, dropped %s", style, put, gone)
				p, _ := fresh(t, 400)
				m := told{p.Copy()}
				root, pairs := int64(0), map[string]string{}
				key := func(n int) string {
					return []string{fmt.Sprint(100 + n), strings.Repeat("k", 45) + fmt.Sprint(100+n), long(fmt.Sprint(100+n), 3+n*11%46)}[style]
				}
				for i := range 2 * many {
					was, elder := p.Copy(), ask(tree.Pages(p, root))
					var now, want int64
					var e, err api.Errno
					if i < many {
						one := key(putting(i))
						pairs[one] = text(i * 13 % 61)
						now, e = tree.Put(p, root, one, pairs[one])
						want, err = m.put(root, one, pairs[one])
					} else {
						one := key(dropping(i - many))
						delete(pairs, one)
						now, _, e = tree.Drop(p, root, one)
						want, _, err = m.dropKey(root, one)
					}
					if now != want || e != api.OK || err != api.OK {
						t.Fatalf("%s: call %d: %d %v, want %d %v", what, i, now, e, want, err)
					}
					root = now
					pages, depth := m.all(root)
					wantDeep(t, p, root, depth, pages...)
					wantLeft(t, what, was, p, elder, pages)
					if i%10 == 9 {
						wantAlike(t, what, p, m.q)
						wantPairs(t, p, root, pairs)
					}
				}
				if root != 0 {
					t.Errorf("%s: it ends at %d", what, root)
				}
			}
		}
	}
}

// grow lays a tree below which the keys of some stand, and tells its root: how many cells pages have is thrown for.
func (d *dice) grow(t *testing.T, p *pager.Pager, keys []string, depth int) int64 {
	if depth == 1 {
		var cells []api.Cell
		for _, key := range keys {
			c := in(key, d.roll(61))
			if size, _ := slots.Size(api.PageLeaf, append(cells, c)); size > api.MaxRoom {
				break // the others do not stand there
			}
			cells = append(cells, c)
		}
		return leaf(t, p, cells...)
	}
	var cells []api.Cell
	most := 2 + d.roll(6)
	for i := range most {
		some := keys[len(keys)*i/most : len(keys)*(i+1)/most]
		c := to(some[0], 2)
		if size, _ := slots.Size(api.PageBranch, append(cells, c)); size > api.MaxRoom {
			break
		}
		cells = append(cells, to(some[0], d.grow(t, p, some, depth-1)))
	}
	return branch(t, p, cells...)
}

// Trees of all shapes, thin pages among them, beside what the chapter tells.
func TestAllOfLaidTrees(t *testing.T) {
	seen := map[string]int{}
	for seed := range 120 {
		d := dice(seed)
		p, _ := fresh(t, 3000)
		var keys []string
		for n := range 600 {
			keys = append(keys, long(fmt.Sprint(1000+n), 4+d.roll([]int{1, 15, 30, 45}[seed%4])))
		}
		keys = keys[:[]int{8, 40, 200, 600}[seed%4]]
		root := d.grow(t, p, keys, 1+seed%4)
		if d.roll(2) == 0 {
			wantCommit(t, p, root)
		}
		m := told{p.Copy()}
		l, e := tree.From(p, root, "", 10000)
		wantErr(t, "From", e, api.OK)
		for range 12 {
			key := keys[d.roll(len(keys))]
			if d.roll(3) > 0 && len(l) > 0 {
				key = l[d.roll(len(l))].Key
			}
			what := fmt.Sprintf("seed %d: %q of %s", seed, key, drawn(p, root))
			was, elder := p.Copy(), ask(tree.Pages(p, root))
			_, deep := m.all(root)
			var now, want int64
			var is, stood bool
			var e, err api.Errno
			if d.roll(4) > 0 {
				now, is, e = tree.Drop(p, root, key)
				want, stood, err = m.dropKey(root, key)
			} else {
				value := d.value(500)
				now, e = tree.Put(p, root, key, value)
				want, err = m.put(root, key, value)
			}
			if now != want || is != stood || e != err || e != api.OK {
				t.Fatalf("%s: %d %v %v, want %d %v %v", what, now, is, e, want, stood, err)
			}
			root = now
			pages, depth := m.all(root)
			wantDeep(t, p, root, depth, pages...)
			wantLeft(t, what, was, p, elder, pages)
			wantAlike(t, what, p, m.q)
			seen[fmt.Sprint("levels ", depth-deep)]++
			seen[fmt.Sprint("pages ", max(-4, min(4, len(pages)-len(elder))))]++
		}
	}
	for _, one := range []string{"levels -1", "levels 0", "levels 1", "pages -2", "pages -1", "pages 0", "pages 1", "pages 2"} {
		if seen[one] < 5 {
			t.Errorf("%s came about %d times: %v", one, seen[one], seen)
		}
	}
}

// stood is a tree: where it is, and what stands in it.
type stood struct {
	root  int64
	pairs map[string]string
}

func apart(all []stood) []stood {
	all = slices.Clone(all)
	for i, one := range all {
		all[i].pairs = maps.Clone(one.pairs)
	}
	return all
}

// life is a pager, its disk, another one on which all is done as the chapter tells, and several trees.
type life struct {
	t           *testing.T
	p           *pager.Pager
	m           told
	d, c        *disk.Disk
	dice        dice
	style, many int
	what        string
	trees       []stood
	last        []stood // those of the last commit
	broke       []stood // those of the commit that broke it
	seen        map[string]int
}

func newLife(t *testing.T, seed, pages int) *life {
	p, d := fresh(t, pages)
	l := &life{t: t, dice: dice(seed), p: p, d: d, style: seed, many: []int{5, 30, 400}[seed%3]}
	l.trees = []stood{{0, map[string]string{}}, {0, map[string]string{}}, {0, map[string]string{}}}
	l.last = apart(l.trees)
	l.goesOn()
	return l
}

// goesOn lets the other one begin where the first one stands, on a disk of its own.
func (l *life) goesOn() {
	l.c = l.d.Copy()
	l.m = told{opened(l.t, l.c)}
}

func (l *life) same(call string, e, want api.Errno) {
	l.t.Helper()
	if e != want {
		l.t.Fatalf("%s: %s: %v, want %v", l.what, call, e, want)
	}
	l.seen[call+" "+e.Error()]++
}

// back lets all be as it lasted.
func (l *life) back() { l.trees = apart(l.last) }

// changed looks at what a put or a drop left.
func (l *life) changed(call string, one *stood, was *pager.Pager, now, want int64, e, err api.Errno) {
	l.t.Helper()
	l.same(call, e, err)
	if now != want {
		l.t.Fatalf("%s: %s: %d, want %d", l.what, call, now, want)
	}
	switch e {
	case api.ErrRoom:
		l.abort()
	case api.OK:
		elder, _ := told{was}.all(one.root)
		one.root = now
		pages, _ := l.m.all(now)
		wantLeft(l.t, l.what, was, l.p, elder, pages)
	default:
		wantAlike(l.t, l.what, l.p, was)
	}
}

func (l *life) put(one *stood) {
	key, value := l.dice.key(l.style, l.many), l.dice.value([]int{300, 4036}[l.style%2])
	switch l.dice.roll(40) {
	case 0:
		key = ""
	case 1:
		key = long(key, 49)
	case 2:
		value = text(4097)
	}
	was := l.p.Copy()
	now, e := tree.Put(l.p, one.root, key, value)
	want, err := l.m.put(one.root, key, value)
	l.changed("Put", one, was, now, want, e, err)
	if e == api.OK {
		one.pairs[key] = value
	}
}

func (l *life) drop(one *stood) {
	key := l.dice.key(l.style, l.many)
	if keys := sortedKeys(one.pairs); len(keys) > 0 && l.dice.roll(4) > 0 {
		key = keys[l.dice.roll(len(keys))]
	}
	was := l.p.Copy()
	now, is, e := tree.Drop(l.p, one.root, key)
	want, stands, err := l.m.dropKey(one.root, key)
	l.changed("Drop", one, was, now, want, e, err)
	if _, there := one.pairs[key]; is != stands || e == api.OK && is != there {
		l.t.Fatalf("%s: Drop(%q): %v, want %v", l.what, key, is, there)
	}
	if e == api.OK {
		delete(one.pairs, key)
		l.seen[fmt.Sprint("Drop ", is)]++
	}
}

func (l *life) clear(one *stood) {
	was := l.p.Copy()
	e := tree.Clear(l.p, one.root)
	if was.Broken() {
		l.same("Clear", e, api.ErrBroken)
		return
	}
	l.same("Clear", e, api.OK)
	pages, _ := l.m.all(one.root)
	l.m.drop(pages...)
	wantLeft(l.t, l.what, was, l.p, pages, nil)
	*one = stood{0, map[string]string{}}
}

func (l *life) commit() {
	if l.dice.roll(3) == 0 {
		kind, steps := []api.Arm{api.ArmStop, api.ArmFail, api.ArmFail}[l.dice.roll(3)], l.dice.roll(l.p.Under()+8)
		l.d.Arm(kind, steps)
		l.c.Arm(kind, steps)
	}
	root := l.trees[l.dice.roll(len(l.trees))].root
	e := l.p.Commit(root)
	l.same("Commit", e, l.m.q.Commit(root))
	switch {
	case e == api.OK:
		l.last = apart(l.trees)
	case e != api.ErrBroken:
		l.broke = l.trees
		l.back()
	}
}

func (l *life) abort() {
	l.same("Abort", l.p.Abort(), l.m.q.Abort())
	l.back()
}

// crash goes on with what a crash leaves; of a broken one it may be what broke it.
func (l *life) crash() {
	broken, txid := l.p.Broken(), l.p.Meta().Txid
	picks := []int{l.dice.roll(3) - 1, l.dice.roll(3) - 1, l.dice.roll(3) - 1}
	l.d, _ = l.d.Crash(picks...)
	l.p = opened(l.t, l.d)
	l.goesOn()
	l.seen["crash"]++
	if broken && l.p.Meta().Txid != txid {
		l.last = l.broke
		l.seen["another commit"]++
	}
	l.back()
}

// turn does something: at times it puts more than it drops, at others the other way round.
func (l *life) turn(grows bool) {
	one := &l.trees[l.dice.roll(1+l.dice.roll(len(l.trees)))]
	switch roll := l.dice.roll(30); {
	case roll < 7 || grows && roll < 20:
		l.put(one)
	case roll < 24:
		l.drop(one)
	case roll == 24 && l.dice.roll(4) == 0:
		l.clear(one)
	case roll < 27:
		l.commit()
	case roll == 27 && l.dice.roll(2) == 0:
		l.abort()
	case l.p.Broken() || l.d.Dead() || l.dice.roll(8) == 0:
		l.crash()
	}
}

// wantTrees asks for some of what stands in a tree.
func (l *life) wantTrees() {
	l.t.Helper()
	one := l.trees[l.dice.roll(len(l.trees))]
	key := l.dice.key(l.style, l.many)
	value, is, e := tree.Get(l.p, one.root, key)
	most := l.dice.roll(12)
	pairs, f := tree.From(l.p, one.root, key, most)
	pages, g := tree.Pages(l.p, one.root)
	depth, h := tree.Check(l.p, one.root)
	if l.p.Broken() {
		if e != api.ErrBroken || f != e || g != e || h != e || value != "" || is || pairs != nil || pages != nil || depth != 0 {
			l.t.Fatalf("%s: of a broken one: %v %v %v %v", l.what, e, f, g, h)
		}
		l.seen["broken"]++
		return
	}
	want, there := one.pairs[key]
	all, deep := l.m.all(one.root)
	if value != want || is != there || depth != deep || !slices.Equal(pages, all) || e != api.OK || f != api.OK || g != api.OK || h != api.OK {
		l.t.Fatalf("%s: %q: %d bytes %v, %d, %v; want %d bytes %v, %d, %v; %v %v %v %v", l.what, key, len(value), is, depth, pages, len(want), there, deep, all, e, f, g, h)
	}
	keys := sortedKeys(one.pairs)
	at, _ := slices.BinarySearch(keys, key)
	keys = keys[at:min(at+most, len(keys))]
	for i, pair := range pairs {
		if i >= len(keys) || pair != (api.Pair{Key: keys[i], Value: one.pairs[keys[i]]}) {
			l.t.Fatalf("%s: From(%q, %d): pair %d: %q", l.what, key, most, i, pair.Key)
		}
	}
	if len(pairs) != len(keys) {
		l.t.Fatalf("%s: From(%q, %d): %d, want %d", l.what, key, most, len(pairs), len(keys))
	}
	l.seen[fmt.Sprint("deep ", depth)]++
}

// P10.1 to P10.4: long lives of several trees, beside plain maps, and beside one on which all is done as the chapter tells.
func TestAllOfLongLives(t *testing.T) {
	seen := map[string]int{}
	for seed := range 48 {
		pages := []int{6, 16, 40, 100, 250, 600}[seed/3%6]
		l := newLife(t, seed, pages)
		l.seen = seen
		for step := range []int{150, 250, 400}[seed%3] {
			l.what = fmt.Sprintf("seed %d (%d pages), step %d", seed, pages, step)
			l.turn(step/100%2 == 0)
			l.wantTrees()
			if step%5 == 0 {
				wantAlike(t, l.what, l.p, l.m.q)
			}
		}
		for _, one := range l.trees {
			if !l.p.Broken() {
				wantPairs(t, l.p, one.root, one.pairs)
			}
		}
	}
	for _, one := range []string{"Put error 0", "Put error 2", "Put error 170", "Put error 180", "Drop error 0", "Drop error 170", "Drop error 180", "Drop true", "Drop false", "Clear error 0", "Commit error 0", "Commit error 120", "Commit error 121", "Abort error 0", "crash", "another commit", "broken", "deep 0", "deep 1", "deep 2", "deep 3"} {
		if seen[one] < 5 {
			t.Errorf("%s came about %d times: %v", one, seen[one], seen)
		}
	}
}
