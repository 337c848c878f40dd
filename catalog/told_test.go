package catalog_test

import (
	"encoding/binary"
	"fmt"
	"maps"
	"math"
	"math/bits"
	"slices"
	"testing"

	"pigeonry/api"
	"pigeonry/catalog"
	"pigeonry/disk"
	"pigeonry/pager"
	"pigeonry/space"
	"pigeonry/tree"
)

// told does what the chapter tells, word for word, on a pager of its own: all roots stand in one map, those that lasted last in another one.
type told struct {
	p         *pager.Pager
	now, last map[string]int64
	changed   bool
	refused   string // where ErrRoom came from last
}

// tell begins with what stands on a disk.
func tell(t *testing.T, d *disk.Disk) *told {
	t.Helper()
	p, e := pager.Open(d)
	if e != api.OK {
		t.Fatalf("Open: %v", e)
	}
	own, e := tree.From(p, p.Meta().Root, "", math.MaxInt)
	if e != api.OK {
		t.Fatalf("From: %v", e)
	}
	m := &told{p: p, now: map[string]int64{}}
	for _, pair := range own {
		m.now[pair.Key] = int64(binary.BigEndian.Uint32([]byte(pair.Value)))
	}
	m.last = maps.Clone(m.now)
	return m
}

func (m *told) aborted() {
	m.p.Abort()
	m.now, m.changed = maps.Clone(m.last), false
}

// became lets a tree have another root.
func (m *told) became(name string, root int64) {
	m.changed = true
	m.now[name] = root
	if root == 0 {
		delete(m.now, name)
	}
}

// wrong tells why something may not be done: with such a name, key, value, number of pairs.
func (m *told) wrong(name, key, value string, most int) api.Errno {
	switch {
	case m.p.Broken():
		return api.ErrBroken
	case len(name) < 1, len(name) > 48, len(key) < 1, len(key) > 48, len(value) > 4096, most < 0:
		return api.ErrArg
	}
	return api.OK
}

func (m *told) put(name, key, value string) api.Errno {
	if e := m.wrong(name, key, value, 0); e != api.OK {
		return e
	}
	root, e := tree.Put(m.p, m.now[name], key, value)
	switch e {
	case api.OK:
		m.became(name, root)
	case api.ErrRoom:
		m.refused = "put"
		m.aborted()
	}
	return e
}

func (m *told) drop(name, key string) (bool, api.Errno) {
	if e := m.wrong(name, key, "", 0); e != api.OK {
		return false, e
	}
	root, is, e := tree.Drop(m.p, m.now[name], key)
	switch {
	case is:
		m.became(name, root)
	case e == api.ErrRoom:
		m.refused = "drop"
		m.aborted()
	}
	return is, e
}

func (m *told) clear(name string) (bool, api.Errno) {
	if e := m.wrong(name, "k", "", 0); e != api.OK {
		return false, e
	}
	root := m.now[name]
	if e := tree.Clear(m.p, root); e != api.OK || root == 0 {
		return false, e
	}
	m.became(name, 0)
	return true, api.OK
}

// own lays the roots that are others into the catalog's own tree, by names.
func (m *told) own() (int64, api.Errno) {
	names := map[string]int{}
	for name := range m.now {
		names[name]++
	}
	for name := range m.last {
		names[name]++
	}
	own := m.p.Meta().Root
	for _, name := range slices.Sorted(maps.Keys(names)) {
		now, stands := m.now[name]
		elder, stood := m.last[name]
		var e api.Errno
		switch {
		case stands == stood && now == elder:
		case stands:
			own, e = tree.Put(m.p, own, name, string(binary.BigEndian.AppendUint32(nil, uint32(now))))
		default:
			own, _, e = tree.Drop(m.p, own, name)
		}
		if e != api.OK {
			return 0, e
		}
	}
	return own, api.OK
}

func (m *told) commit() api.Errno {
	if m.p.Broken() {
		return api.ErrBroken
	}
	m.refused = "own tree"
	own, e := m.own()
	if e == api.OK {
		m.refused = "free list"
		e = m.p.Commit(own)
	}
	if e != api.OK {
		m.aborted()
		return e
	}
	m.last, m.changed = maps.Clone(m.now), false
	return api.OK
}

func (m *told) abort() api.Errno {
	if m.p.Broken() {
		return api.ErrBroken
	}
	m.aborted()
	return api.OK
}

// wantTold asks whether a catalog stands as the other one does.
func wantTold(t *testing.T, what string, c *catalog.Catalog, m *told) {
	t.Helper()
	p, q := c.Pager, m.p
	if c.Meta() != q.Meta() || c.Changed() != m.changed || c.Broken() != q.Broken() || p.Under() != q.Under() {
		t.Fatalf("%s: %v %v %v %d, want %v %v %v %d", what, c.Meta(), c.Changed(), c.Broken(), p.Under(), q.Meta(), m.changed, q.Broken(), q.Under())
	}
	if s, r := p.Space(), q.Space(); !space.Same(s, r) {
		t.Fatalf("%s: the space: %d %v %v %v, want %d %v %v %v", what, s.High(), s.Free(), s.New(), s.Held(), r.High(), r.Free(), r.New(), r.Held())
	}
	if !disk.Same(p.Disk(), q.Disk()) {
		t.Fatalf("%s: another disk", what)
	}
	if q.Broken() {
		return
	}
	names, e := c.Names()
	if want := slices.Sorted(maps.Keys(m.now)); !slices.Equal(names, want) || e != api.OK {
		t.Fatalf("%s: Names: %q %v, want %q", what, names, e, want)
	}
}

// wantPages asks for the pages of what lasts, and whether each page is just one of: of a tree; of the free list; free.
func wantPages(t *testing.T, what string, c *catalog.Catalog) {
	t.Helper()
	was := c.Copy()
	pages, list, free, e := c.Pages()
	if e != api.OK {
		t.Fatalf("%s: Pages: %v", what, e)
	}
	wantSameCatalog(t, what+": behind Pages", c, was)
	m := tell(t, c.Disk())
	want, _ := tree.Pages(m.p, c.Meta().Root)
	for name, root := range m.last {
		some, e := tree.Pages(m.p, root)
		if e != api.OK {
			t.Fatalf("%s: the tree %q: %v", what, name, e)
		}
		want = append(want, some...)
	}
	slices.Sort(want)
	if frees := m.p.Space().Free(); !slices.Equal(pages, want) || !slices.Equal(list, slices.Sorted(slices.Values(m.p.List()))) || !slices.Equal(free, frees) {
		t.Fatalf("%s: Pages: %v %v %v, want %v %v %v", what, pages, list, free, want, m.p.List(), frees)
	}
	all := slices.Sorted(slices.Values(slices.Concat(pages, list, free)))
	for i, number := range all {
		if number != int64(i)+2 {
			t.Fatalf("%s: page %d is not just one: %v %v %v", what, i+2, pages, list, free)
		}
	}
	if int64(len(all)) != c.Meta().High-2 {
		t.Fatalf("%s: %d pages, High is %d", what, len(all), c.Meta().High)
	}
}

// wantSameCatalog asks whether two stand alike in all that they tell.
func wantSameCatalog(t *testing.T, what string, a, b *catalog.Catalog) {
	t.Helper()
	if a.Meta() != b.Meta() || a.Changed() != b.Changed() || a.Broken() != b.Broken() || a.Under() != b.Under() {
		t.Fatalf("%s: %v %v %v %d, want %v %v %v %d", what, a.Meta(), a.Changed(), a.Broken(), a.Under(), b.Meta(), b.Changed(), b.Broken(), b.Under())
	}
	if !space.Same(a.Space(), b.Space()) || !slices.Equal(a.List(), b.List()) || !disk.Same(a.Disk(), b.Disk()) {
		t.Fatalf("%s: another space, list or disk", what)
	}
	if !a.Broken() {
		wantAll(t, what, a, all(t, b))
	}
}

// shelf is all that stands: the pairs of each tree.
type shelf map[string]map[string]string

func (s shelf) apart() shelf {
	other := shelf{}
	for name, pairs := range s {
		other[name] = maps.Clone(pairs)
	}
	return other
}

func (s shelf) put(name, key, value string) {
	if s[name] == nil {
		s[name] = map[string]string{}
	}
	s[name][key] = value
}

func (s shelf) drop(name, key string) {
	delete(s[name], key)
	if len(s[name]) == 0 {
		delete(s, name)
	}
}

func (s shelf) same(o shelf) bool {
	return maps.EqualFunc(s, o, func(a, b map[string]string) bool { return maps.Equal(a, b) })
}

// all tells all that stands in a catalog.
func all(t *testing.T, c *catalog.Catalog) shelf {
	t.Helper()
	names, e := c.Names()
	if e != api.OK || !slices.IsSorted(names) {
		t.Fatalf("Names: %q %v", names, e)
	}
	s := shelf{}
	for _, name := range names {
		pairs, e := c.From(name, "", math.MaxInt)
		if e != api.OK || len(pairs) == 0 || s[name] != nil {
			t.Fatalf("From(%q): %d %v", name, len(pairs), e)
		}
		for _, pair := range pairs {
			s.put(name, pair.Key, pair.Value)
		}
		if len(s[name]) != len(pairs) {
			t.Fatalf("From(%q): a key stands twice", name)
		}
	}
	return s
}

func wantAll(t *testing.T, what string, c *catalog.Catalog, want shelf) {
	t.Helper()
	if got := all(t, c); !got.same(want) {
		t.Fatalf("%s: %v, want %v", what, drawn(got), drawn(want))
	}
}

// drawn tells what stands, of long values their length.
func drawn(s shelf) (lines []string) {
	for _, name := range slices.Sorted(maps.Keys(s)) {
		for _, key := range slices.Sorted(maps.Keys(s[name])) {
			value := s[name][key]
			if len(value) > 20 {
				value = fmt.Sprint(len(value), " bytes")
			}
			lines = append(lines, fmt.Sprintf("%q: %q: %q", name, key, value))
		}
	}
	return lines
}

// dice tells numbers that are the same each time.
type dice uint32

func (d *dice) roll(n int) int {
	*d = *d*1664525 + 1013904223
	return int(uint64(bits.RotateLeft32(uint32(*d), 16)) % uint64(n))
}

// life is a catalog, its disk, and another one on which all is done as the chapter tells.
type life struct {
	t            *testing.T
	c            *catalog.Catalog
	m            *told
	d, o         *disk.Disk
	dice         dice
	names, keys  int
	longest      int
	what         string
	now          shelf
	last, broke  shelf // those of the last commit, and of the one that broke it
	aside, asWas *catalog.Catalog
	asideHas     shelf
	seen         map[string]int
}

func newLife(t *testing.T, seed, pages int, seen map[string]int) *life {
	l := &life{t: t, dice: dice(seed), names: []int{2, 9, 60}[seed%3], keys: []int{3, 12, 60}[seed/3%3], longest: []int{300, 4036}[seed%2], seen: seen, now: shelf{}, last: shelf{}}
	l.c, l.d = fresh(t, pages)
	l.goesOn()
	return l
}

// goesOn lets the other one begin where the first one stands, on a disk of its own.
func (l *life) goesOn() {
	l.o = l.d.Copy()
	l.m = tell(l.t, l.o)
}

func (l *life) name() string {
	switch n := l.dice.roll(l.names); n % 3 {
	case 0:
		return fmt.Sprint("n", n)
	case 1:
		return long(fmt.Sprint(n), api.MaxKey)
	default:
		return string([]byte{byte(n), 0xff, 0})
	}
}

func (l *life) key() string { return long(fmt.Sprint(l.dice.roll(l.keys)), 2+l.longest%41) }

func (l *life) value() string {
	switch l.dice.roll(10) {
	case 0:
		return text(61 + l.dice.roll(l.longest))
	case 1:
		return text(60 + l.dice.roll(2))
	case 2:
		return ""
	}
	return text(l.dice.roll(61))
}

// same asks whether a call answered what it should have, and counts it.
func (l *life) same(call string, is, want bool, e, err api.Errno) {
	l.t.Helper()
	if is != want || e != err {
		l.t.Fatalf("%s: %s: %v %v, want %v %v", l.what, call, is, e, want, err)
	}
	l.seen[fmt.Sprint(call, " ", is, " ", e.Error())]++
	if e == api.ErrRoom {
		l.seen["room "+l.m.refused]++
		l.now = l.last.apart()
	}
}

func (l *life) put() {
	name, key, value := l.name(), l.key(), l.value()
	switch l.dice.roll(60) {
	case 0:
		name = long(name, api.MaxKey+1)
	case 1:
		name = ""
	case 2:
		key = long(key, api.MaxKey+1)
	case 3:
		key = ""
	case 4:
		value = text(api.MaxValue + 1)
	}
	e := l.c.Put(name, key, value)
	l.same("Put", true, true, e, l.m.put(name, key, value))
	if e == api.OK {
		l.now.put(name, key, value)
	}
}

func (l *life) drop() {
	name, key := l.name(), l.key()
	if names := slices.Sorted(maps.Keys(l.now)); len(names) > 0 && l.dice.roll(5) > 0 {
		name = names[l.dice.roll(len(names))]
		keys := slices.Sorted(maps.Keys(l.now[name]))
		key = keys[l.dice.roll(len(keys))]
	}
	_, stands := l.now[name][key]
	is, e := l.c.Drop(name, key)
	want, err := l.m.drop(name, key)
	l.same("Drop", is, want, e, err)
	if e == api.OK {
		if is != stands {
			l.t.Fatalf("%s: Drop: %v, want %v", l.what, is, stands)
		}
		l.now.drop(name, key)
	}
}

func (l *life) clear() {
	name := l.name()
	stands := len(l.now[name]) > 0
	is, e := l.c.Clear(name)
	want, err := l.m.clear(name)
	l.same("Clear", is, want, e, err)
	if e == api.OK {
		if is != stands {
			l.t.Fatalf("%s: Clear: %v, want %v", l.what, is, stands)
		}
		delete(l.now, name)
	}
}

func (l *life) commit() {
	if l.dice.roll(3) == 0 {
		kind, steps := []api.Arm{api.ArmStop, api.ArmFail, api.ArmFail}[l.dice.roll(3)], l.dice.roll(l.c.Under()+9)
		l.d.Arm(kind, steps)
		l.o.Arm(kind, steps)
	}
	ahead := l.now
	e := l.c.Commit()
	l.same("Commit", true, true, e, l.m.commit())
	switch e {
	case api.OK:
		l.last = l.now.apart()
	case api.ErrDead, api.ErrFault:
		l.broke = ahead
		l.now = l.last.apart()
	}
}

func (l *life) abort() {
	l.same("Abort", true, true, l.c.Abort(), l.m.abort())
	l.now = l.last.apart()
}

// crash goes on with what a crash leaves; of a broken one it may be what broke it.
func (l *life) crash() {
	broken, txid := l.c.Broken(), l.c.Meta().Txid
	l.d, _ = l.d.Crash(l.dice.roll(3)-1, l.dice.roll(3)-1, l.dice.roll(3)-1, l.dice.roll(3)-1, l.dice.roll(3)-1)
	l.c = opened(l.t, l.d)
	l.goesOn()
	l.seen["crash"]++
	if broken && l.c.Meta().Txid != txid {
		l.last = l.broke
		l.seen["another commit"]++
	}
	l.now = l.last.apart()
	wantAll(l.t, l.what+": behind a crash", l.c, l.now)
	wantPages(l.t, l.what+": behind a crash", l.c)
}

// part sets another one aside, and asks whether the one that was set aside ahead stands as it did.
func (l *life) part() {
	if l.aside != nil {
		wantSameCatalog(l.t, l.what+": the one that was set aside", l.aside, l.asWas)
		if !l.aside.Broken() {
			wantAll(l.t, l.what+": the one that was set aside", l.aside, l.asideHas)
		}
	}
	l.aside, l.asWas, l.asideHas = l.c.Copy(), l.c.Copy(), l.now.apart()
	l.seen[fmt.Sprint("set aside ", l.c.Changed())]++
}

// turn does something: at times it puts more than it drops, at others the other way round.
func (l *life) turn(grows bool) {
	switch roll := l.dice.roll(60); {
	case roll < 14 || grows && roll < 36:
		l.put()
	case roll < 46:
		l.drop()
	case roll < 48:
		l.clear()
	case roll < 53:
		l.commit()
	case roll < 55:
		l.abort()
	case roll == 55:
		l.part()
	case l.c.Broken() || l.d.Dead() || l.dice.roll(12) == 0:
		l.crash()
	}
}

// asks asks for some of what stands.
func (l *life) asks() {
	l.t.Helper()
	name, key, most := l.name(), l.key(), l.dice.roll(6)
	value, is, e := l.c.Get(name, key)
	pairs, f := l.c.From(name, key, most)
	if l.c.Broken() {
		if value != "" || is || pairs != nil || e != api.ErrBroken || f != e {
			l.t.Fatalf("%s: of a broken one: %q %v %v %v %v", l.what, value, is, pairs, e, f)
		}
		l.seen["broken"]++
		return
	}
	want, stands := l.now[name][key]
	if value != want || is != stands || e != api.OK {
		l.t.Fatalf("%s: Get(%q, %q): %d bytes %v %v, want %d bytes %v", l.what, name, key, len(value), is, e, len(want), stands)
	}
	keys := slices.Sorted(maps.Keys(l.now[name]))
	at, _ := slices.BinarySearch(keys, key)
	keys = keys[at:min(at+most, len(keys))]
	if len(pairs) != len(keys) || f != api.OK {
		l.t.Fatalf("%s: From(%q, %q, %d): %d %v, want %d", l.what, name, key, most, len(pairs), f, len(keys))
	}
	for i, pair := range pairs {
		if pair.Key != keys[i] || pair.Value != l.now[name][keys[i]] {
			l.t.Fatalf("%s: From(%q, %q, %d): pair %d: %q", l.what, name, key, most, i, pair.Key)
		}
	}
	depth, _ := tree.Check(l.c.Pager, l.c.Meta().Root)
	l.seen[fmt.Sprint("own tree ", depth)]++
}

// P11.1 to P11.4: long lives, beside plain maps, and beside one on which all is done as the chapter tells.
func TestLongLives(t *testing.T) {
	seen := map[string]int{}
	for seed := range 54 {
		pages := []int{8, 20, 60, 150, 400, 1000}[seed/3%6]
		l := newLife(t, seed, pages, seen)
		for step := range 300 {
			l.what = fmt.Sprintf("seed %d (%d pages), step %d", seed, pages, step)
			l.turn(step/60%2 == 0)
			l.asks()
			wantTold(t, l.what, l.c, l.m)
			if step%10 == 0 && !l.c.Broken() {
				wantAll(t, l.what, l.c, l.now)
				wantPages(t, l.what, l.c)
			}
		}
	}
	for _, one := range []string{
		"Put true error 0", "Put true error 2", "Put true error 170", "Put true error 180",
		"Drop true error 0", "Drop false error 0", "Drop false error 170", "Drop false error 180",
		"Clear true error 0", "Clear false error 0", "Clear false error 180",
		"Commit true error 0", "Commit true error 120", "Commit true error 121", "Commit true error 170", "Commit true error 180",
		"Abort true error 0", "Abort true error 180", "crash", "another commit", "broken", "set aside true", "set aside false",
		"room put", "room drop", "room own tree", "room free list", "own tree 0", "own tree 1", "own tree 2",
	} {
		if seen[one] < 5 {
			t.Errorf("%s came about %d times: %v", one, seen[one], seen)
		}
	}
}
