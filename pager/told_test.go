package pager_test

import (
	"bytes"
	"encoding/binary"
	"fmt"
	"maps"
	"math/bits"
	"slices"
	"testing"

	"pigeonry/api"
	"pigeonry/disk"
	"pigeonry/meta"
	"pigeonry/page"
	"pigeonry/pager"
)

// set is a set of pages.
type set map[int64]struct{}

func setOf(pages ...int64) set {
	s := set{}
	for _, number := range pages {
		s[number] = struct{}{}
	}
	return s
}

func (s set) has(number int64) bool {
	_, is := s[number]
	return is
}

func (s set) rising() []int64 { return slices.Sorted(maps.Keys(s)) }

// bodyOf tells the Body of numbers, in four bytes each.
func bodyOf(numbers ...int64) []byte {
	var b []byte
	for _, n := range numbers {
		b = binary.BigEndian.AppendUint32(b, uint32(n))
	}
	return b
}

func rawPage(number int64, p api.Page) []byte {
	b, e := page.Raw(number, p)
	if e != api.OK {
		panic(fmt.Sprint("no page: ", p))
	}
	return b
}

func rawMeta(m api.Meta) []byte {
	b, e := meta.Raw(m)
	if e != api.OK {
		panic(fmt.Sprint("no meta: ", m))
	}
	return b
}

// toldDisk is a disk as its chapter tells it, but for what a crash leaves.
type toldDisk struct {
	pages map[int64][]byte
	waits []int64 // the pages of what waits
	steps int64
	arm   api.Arm
	left  int
	dead  bool
}

func (d *toldDisk) copy() *toldDisk {
	c := *d
	c.pages, c.waits = maps.Clone(d.pages), slices.Clone(d.waits)
	return &c
}

func (d *toldDisk) step() api.Errno {
	switch {
	case d.dead:
		return api.ErrDead
	case d.arm != api.ArmNone && d.left == 0:
		refused := api.ErrFault
		if d.arm == api.ArmStop {
			d.dead, refused = true, api.ErrDead
		}
		d.arm = api.ArmNone
		return refused
	}
	d.left--
	d.steps++
	return api.OK
}

func (d *toldDisk) write(number int64, b []byte) api.Errno {
	e := d.step()
	if e == api.OK {
		d.pages[number] = b
		d.waits = append(d.waits, number)
	}
	return e
}

func (d *toldDisk) flush() api.Errno {
	e := d.step()
	if e == api.OK {
		d.waits = nil
	}
	return e
}

// store is what a commit left. Its pages are those that are kept, those of the free list, too.
type store struct {
	meta       api.Meta
	list, free []int64
	pages      map[int64]api.Page
}

// told is a pager as the chapter tells it, word for word.
type told struct {
	store
	room, high int64
	under      map[int64]api.Page // what is new is what is under way
	held, free set
	disk       *toldDisk
	broken     bool
	broke      *store // what would have been left by the commit that broke it
}

// newTold tells one of what may be, that stands on such a disk.
func newTold(room int64, s store, d *toldDisk) *told {
	m := &told{store: s, room: room, disk: d}
	m.abort()
	return m
}

func (m *told) copy() *told {
	c := *m
	c.under, c.held, c.free = maps.Clone(m.under), maps.Clone(m.held), maps.Clone(m.free)
	c.disk = m.disk.copy()
	return &c
}

func (m *told) abort() {
	m.high, m.under, m.held, m.free = m.meta.High, map[int64]api.Page{}, setOf(), setOf(m.store.free...)
}

func (m *told) is(number int64) api.Place {
	_, fresh := m.under[number]
	switch {
	case number < 2 || number >= m.high:
		return api.PlaceNone
	case fresh:
		return api.PlaceNew
	case m.held.has(number):
		return api.PlaceHeld
	case m.free.has(number):
		return api.PlaceFree
	}
	return api.PlaceKept
}

func (m *told) reads(number int64) bool {
	return m.is(number) == api.PlaceKept || m.is(number) == api.PlaceNew
}

func (m *told) take() (int64, api.Errno) {
	number := m.high
	if len(m.free) > 0 {
		number = m.free.rising()[0]
		delete(m.free, number)
	} else if m.high == m.room {
		return 0, api.ErrRoom
	} else {
		m.high++
	}
	m.under[number] = api.Page{}
	return number, api.OK
}

func (m *told) write(k api.PageKind, next int64, body []byte) (int64, api.Errno) {
	written := k == api.PageLeaf || k == api.PageBranch || k == api.PageChain
	switch {
	case m.broken:
		return 0, api.ErrBroken
	case !written || next < 0 || next > 4095 || len(body) > 232:
		return 0, api.ErrArg
	}
	number, e := m.take()
	if e == api.OK {
		m.under[number] = api.Page{Kind: k, Txid: m.meta.Txid + 1, Next: next, Body: bytes.Clone(body)}
	}
	return number, e
}

func (m *told) read(number int64) (api.Page, api.Errno) {
	switch {
	case m.broken:
		return api.Page{}, api.ErrBroken
	case m.is(number) == api.PlaceNew:
		return m.under[number], api.OK
	case m.is(number) == api.PlaceKept:
		return m.pages[number], api.OK
	}
	return api.Page{}, api.ErrKept
}

func (m *told) drop(number int64) api.Errno {
	switch {
	case m.broken:
		return api.ErrBroken
	case m.is(number) == api.PlaceNew:
		delete(m.under, number)
		m.free[number] = struct{}{}
	case m.is(number) == api.PlaceKept:
		m.held[number] = struct{}{}
	default:
		return api.ErrKept
	}
	return api.OK
}

func (m *told) will() []int64 {
	all := maps.Clone(m.free)
	maps.Copy(all, m.held)
	return all.rising()
}

func (m *told) drops() api.Errno {
	if m.broken {
		return api.ErrBroken
	}
	m.abort()
	return api.OK
}

func (m *told) commit(root int64) api.Errno {
	if m.broken {
		return api.ErrBroken
	}
	e := m.tries(root)
	if e != api.OK {
		m.abort()
	}
	return e
}

// tries tells a commit but for that it aborts.
func (m *told) tries(root int64) api.Errno {
	if root != 0 && !m.reads(root) {
		return api.ErrArg
	}
	for _, number := range m.list {
		m.held[number] = struct{}{}
	}
	var list []int64
	for 58*len(list) < len(m.will()) {
		number, e := m.take()
		if e != api.OK {
			return e
		}
		list = append(list, number)
	}
	next := m.left(root, list)
	for _, number := range slices.Sorted(maps.Keys(m.under)) {
		if e := m.disk.write(number, rawPage(number, m.under[number])); e != api.OK {
			return e
		}
	}
	if e := m.disk.flush(); e != api.OK {
		return e
	}
	at := next.meta.Txid % 2
	elder := m.disk.pages[at]
	if e := m.disk.write(at, rawMeta(next.meta)); e != api.OK {
		return e
	}
	if e := m.disk.flush(); e != api.OK {
		if m.disk.write(at, elder) != api.OK || m.disk.flush() != api.OK {
			m.broken, m.broke = true, &next
		}
		return e
	}
	m.store = next
	m.abort()
	return api.OK
}

// left tells what a commit leaves, and lets the pages of its free list be under way.
func (m *told) left(root int64, list []int64) store {
	s := store{api.Meta{Txid: m.meta.Txid + 1, Root: root, High: m.high}, list, m.will(), maps.Clone(m.pages)}
	from := append(slices.Clone(list), 0)
	s.meta.Free = from[0]
	for i, number := range list {
		body := bodyOf(s.free[58*i : min(58*i+58, len(s.free))]...)
		m.under[number] = api.Page{Kind: api.PageFree, Txid: s.meta.Txid, Next: from[i+1], Body: body}
	}
	maps.Copy(s.pages, m.under)
	for number := range m.held {
		delete(s.pages, number)
	}
	return s
}

// storeTold reads what stands on a disk, as the chapter tells it.
func storeTold(d *disk.Disk) (store, api.Errno) {
	at := func(number int64) []byte {
		b, _ := d.Read(int(number))
		return b
	}
	m, e := meta.Counts(at(0), at(1))
	if e != api.OK {
		return store{}, api.ErrMeta
	}
	s := store{meta: m, pages: map[int64]api.Page{}}
	if m.High > int64(d.Pages()) {
		return store{}, api.ErrStore
	}
	tells := 58
	for number := m.Free; number != 0; {
		p, e := page.Parse(number, at(number))
		if number < 2 || number >= m.High || e != api.OK || p.Kind != api.PageFree || slices.Contains(s.list, number) || tells != 58 || len(p.Body)%4 != 0 {
			return store{}, api.ErrStore
		}
		tells = len(p.Body) / 4
		for i := range tells {
			s.free = append(s.free, int64(binary.BigEndian.Uint32(p.Body[4*i:])))
		}
		s.list = append(s.list, number)
		number = p.Next
	}
	for i, number := range s.free {
		if number < 2 || number >= m.High || i > 0 && number <= s.free[i-1] || slices.Contains(s.list, number) {
			return store{}, api.ErrStore
		}
	}
	for number := int64(2); number < m.High; number++ {
		if p, e := page.Parse(number, at(number)); e == api.OK && !slices.Contains(s.free, number) {
			s.pages[number] = p
		}
	}
	return s, api.OK
}

// wantSpace asks what a pager's space says, as it is and as it lasts.
func wantSpace(t *testing.T, what string, p *pager.Pager, m *told) {
	t.Helper()
	for _, lasts := range []bool{false, true} {
		s := p.Space()
		if lasts {
			m = newTold(m.room, m.store, nil)
			s.Undo()
		}
		if s.High() != m.high {
			t.Fatalf("%s: High (as it lasts: %v): %d, want %d", what, lasts, s.High(), m.high)
		}
		for number := int64(-1); number < m.high+2; number++ {
			if s.Is(number) != m.is(number) {
				t.Fatalf("%s: Is(%d) (as it lasts: %v): %v, want %v", what, number, lasts, s.Is(number), m.is(number))
			}
		}
	}
}

// wantPages asks what each page reads as.
func wantPages(t *testing.T, what string, p *pager.Pager, m *told) {
	t.Helper()
	for number := int64(-1); number < m.high+2; number++ {
		got, e := p.Read(number)
		want, err := m.read(number)
		if e != err || !page.Same(got, want) {
			t.Fatalf("%s: Read(%d): %v %v, want %v %v", what, number, got, e, want, err)
		}
	}
}

// wantDisk asks what a pager's disk is like.
func wantDisk(t *testing.T, what string, p *pager.Pager, m *told) {
	t.Helper()
	d := p.Disk()
	if d.Waits() != len(m.disk.waits) || d.Steps() != m.disk.steps || d.Dead() != m.disk.dead {
		t.Fatalf("%s: the disk: %d wait, %d steps, dead %v; want %d, %d, %v", what, d.Waits(), d.Steps(), d.Dead(), len(m.disk.waits), m.disk.steps, m.disk.dead)
	}
	for number := range m.room {
		want, written := m.disk.pages[number]
		if !written {
			want = make([]byte, api.PageSize)
		}
		if b, e := d.Read(int(number)); e != api.OK || !bytes.Equal(b, want) {
			t.Fatalf("%s: page %d of the disk: %x %v, want %x", what, number, b, e, want)
		}
	}
}

// wantAll asks all that can be asked of a pager.
func wantAll(t *testing.T, what string, p *pager.Pager, m *told) {
	t.Helper()
	if p.Meta() != m.meta || !slices.Equal(p.List(), m.list) || p.Under() != len(m.under) || p.Broken() != m.broken {
		t.Fatalf("%s: %v %v %d %v, want %v %v %d %v", what, p.Meta(), p.List(), p.Under(), p.Broken(), m.meta, m.list, len(m.under), m.broken)
	}
	wantSpace(t, what, p, m)
	wantPages(t, what, p, m)
	wantDisk(t, what, p, m)
}

// isStore tells whether a pager has just what a commit left.
func isStore(p *pager.Pager, s store) bool {
	if p.Meta() != s.meta || !slices.Equal(p.List(), s.list) || !slices.Equal(p.Space().Free(), s.free) {
		return false
	}
	for number := int64(2); number < s.meta.High; number++ {
		got, e := p.Read(number)
		want, kept := s.pages[number]
		if kept != (e == api.OK) || !page.Same(got, want) {
			return false
		}
	}
	return true
}

// wantCrash asks whether a disk that a crash left has what the last commit left that was not refused; or, of a pager that is broken, perhaps what that would have left that broke it.
func wantCrash(t *testing.T, what string, d *disk.Disk, m *told) {
	t.Helper()
	p, e := pager.Open(d)
	if e != api.OK {
		t.Fatalf("%s: Open behind a crash: %v", what, e)
	}
	if !isStore(p, m.store) && (m.broke == nil || !isStore(p, *m.broke)) {
		t.Fatalf("%s: behind a crash: %v %v %v, want %v", what, p.Meta(), p.List(), p.Space().Free(), m.store)
	}
	wantKnown(t, what, p)
}

// wantKnown asks whether it is known of each page below High what it is: kept, of the free list, or free.
func wantKnown(t *testing.T, what string, p *pager.Pager) {
	t.Helper()
	in := map[int64]int{0: 1, 1: 1}
	for _, list := range [][]int64{p.List(), p.Space().Free()} {
		for _, number := range list {
			in[number]++
		}
	}
	for number := int64(2); number < p.Meta().High; number++ {
		if got, e := p.Read(number); e == api.OK && got.Kind != api.PageFree {
			in[number]++
		}
	}
	for number := range p.Meta().High {
		if in[number] != 1 {
			t.Fatalf("%s: page %d is known as %d things", what, number, in[number])
		}
	}
	if len(in) != int(p.Meta().High) {
		t.Fatalf("%s: %d pages are known of %d", what, len(in), p.Meta().High)
	}
}

// dice tells numbers that are the same each time.
type dice uint32

func (d *dice) roll(n int) int {
	*d = *d*1664525 + 1013904223
	return int(uint64(bits.RotateLeft32(uint32(*d), 16)) % uint64(n))
}

// picks tells some for a crash: all as it lasts, all as it was written, or any.
func (d *dice) picks(pages int) []int {
	all := make([]int, 4*pages)
	way := d.roll(3)
	for i := range all {
		switch way {
		case 1:
			all[i] = -1
		case 2:
			all[i] = d.roll(100) - 50
		}
	}
	return all
}

func (d *dice) body(most int) []byte {
	b := make([]byte, d.roll(most+1))
	for i := range b {
		b[i] = byte(d.roll(256))
	}
	return b
}

// life is a pager, its disk, and what both are told to be.
type life struct {
	t    *testing.T
	dice dice
	what string
	p    *pager.Pager
	d    *disk.Disk
	told *told
	seen map[string]int
}

func newLife(t *testing.T, seed int, room int) *life {
	l := &life{t: t, dice: dice(seed), what: fmt.Sprint("seed ", seed), seen: map[string]int{}}
	l.d = made(t, room)
	l.p = opened(t, l.d)
	l.told = toldOf(t, l.d)
	return l
}

// toldOf tells the pager of a disk on which a store stands.
func toldOf(t *testing.T, d *disk.Disk) *told {
	t.Helper()
	s, e := storeTold(d)
	if e != api.OK {
		t.Fatalf("no store stands there: %v", e)
	}
	of := &toldDisk{pages: map[int64][]byte{}, steps: d.Steps()}
	for number := range d.Pages() {
		of.pages[int64(number)], _ = d.Read(number)
	}
	return newTold(int64(d.Pages()), s, of)
}

// some tells a page that is such, if one is found soon; else 0.
func (l *life) some(such ...api.Place) int64 {
	for range 20 {
		number := int64(l.dice.roll(int(l.told.high)+3)) - 1
		if slices.Contains(such, l.told.is(number)) {
			return number
		}
	}
	return 0
}

func (l *life) write() {
	k, next, body := api.PageLeaf+api.PageKind(l.dice.roll(3)), int64(l.dice.roll(4096)), l.dice.body(232)
	switch l.dice.roll(40) {
	case 0:
		k = []api.PageKind{-1, api.PageNone, api.PageMeta, api.PageFree, 6}[l.dice.roll(5)]
	case 1:
		next = []int64{-1, 4096, 1 << 40}[l.dice.roll(3)]
	case 2:
		body = append(body, make([]byte, 233)...)
	}
	number, e := l.p.Write(k, next, body)
	want, err := l.told.write(k, next, body)
	if number != want || e != err {
		l.t.Fatalf("%s: Write(%v, %d, %x): %d %v, want %d %v", l.what, k, next, body, number, e, want, err)
	}
	l.seen["Write "+e.Error()]++
}

func (l *life) drop() {
	number := l.some(api.PlaceKept, api.PlaceNew)
	if l.dice.roll(5) == 0 {
		number = l.some(api.PlaceNone, api.PlaceFree, api.PlaceHeld)
	}
	e := l.p.Drop(number)
	if err := l.told.drop(number); e != err {
		l.t.Fatalf("%s: Drop(%d): %v, want %v", l.what, number, e, err)
	}
	l.seen["Drop "+e.Error()]++
}

// arm arms the disk, or does not, so that mostly a step of the next commit is refused.
func (l *life) arm() {
	kind := []api.Arm{api.ArmNone, api.ArmNone, api.ArmNone, api.ArmNone, api.ArmNone, api.ArmFail, api.ArmFail, api.ArmStop}[l.dice.roll(8)]
	if kind == api.ArmNone {
		return
	}
	steps := l.dice.roll(len(l.told.under) + 5)
	if l.d.Arm(kind, steps) == api.OK {
		l.told.disk.arm, l.told.disk.left = kind, steps
	}
}

func (l *life) commit() {
	root := l.some(api.PlaceKept, api.PlaceNew)
	switch l.dice.roll(10) {
	case 0:
		root = 0
	case 1:
		root = l.some(api.PlaceNone, api.PlaceFree, api.PlaceHeld)
	}
	l.arm()
	e := l.p.Commit(root)
	if err := l.told.commit(root); e != err {
		l.t.Fatalf("%s: Commit(%d): %v, want %v", l.what, root, e, err)
	}
	l.seen["Commit "+e.Error()]++
	l.seen[fmt.Sprint("list of ", len(l.p.List()))]++
	if l.p.Broken() {
		l.seen["broken"]++
	}
}

func (l *life) abort() {
	if e, err := l.p.Abort(), l.told.drops(); e != err {
		l.t.Fatalf("%s: Abort: %v, want %v", l.what, e, err)
	}
}

// crash asks what a crash leaves, and goes on with that if it is to.
func (l *life) crash(on bool) {
	c, e := l.d.Crash(l.dice.picks(len(l.told.disk.waits))...)
	if e != api.OK {
		l.t.Fatalf("%s: Crash: %v", l.what, e)
	}
	wantCrash(l.t, l.what, c.Copy(), l.told)
	if on {
		l.d, l.p, l.told = c, opened(l.t, c), toldOf(l.t, c)
	}
}

// turn does something: at times it writes more than it drops, at others the other way round.
func (l *life) turn(grows bool) {
	writes, drops := 1+int(l.told.room)/4, 1+int(l.told.room)/20
	if !grows {
		writes, drops = drops, writes
	}
	switch l.dice.roll(12) {
	case 0, 1, 2:
		for range l.dice.roll(writes + 1) {
			l.write()
		}
	case 3, 4, 5:
		for range l.dice.roll(drops + 1) {
			l.drop()
		}
	case 6, 7, 8, 9:
		l.commit()
	case 10:
		l.abort()
	case 11:
		l.crash(l.told.disk.dead || l.dice.roll(10) == 0)
	}
}

// wantSeen asks whether all of it came about.
func wantSeen(t *testing.T, seen map[string]int, most int, all ...string) {
	t.Helper()
	for _, one := range all {
		if seen[one] < most {
			t.Errorf("%s came about %d times: %v", one, seen[one], seen)
		}
	}
}

// P8.1 to P8.5: long lives, beside a plain reckoning; copies stay as they were.
func TestAllOfLongLives(t *testing.T) {
	seen := map[string]int{}
	for seed := range 60 {
		room := []int{2, 3, 5, 9, 20, 60, 200}[seed%7]
		l := newLife(t, seed, room)
		l.seen = seen
		other, stays := l.p.Copy(), l.told.copy()
		for step := range 200 {
			l.what = fmt.Sprintf("seed %d (room %d), step %d", seed, room, step)
			kept := maps.Clone(l.told.pages)
			disk := l.p.Disk()
			l.turn(step/30%2 == 0)
			wantAll(t, l.what, l.p, l.told)
			if l.p.Disk().Pages() == disk.Pages() && l.told.disk.steps >= disk.Steps() {
				wantNotOver(t, l, kept)
			}
			if step%20 == 19 {
				wantAll(t, l.what+": a copy", other, stays)
				other, stays = l.p.Copy(), l.told.copy()
			}
		}
		l.crash(false)
	}
	wantSeen(t, seen, 5, "Write error 0", "Write error 2", "Write error 170", "Write error 180", "Drop error 0", "Drop error 171", "Drop error 180")
	wantSeen(t, seen, 5, "Commit error 0", "Commit error 2", "Commit error 170", "Commit error 120", "Commit error 121", "broken", "list of 0", "list of 1", "list of 2", "list of 3")
}

// wantNotOver asks whether all that was kept, and still lasts, stands on the disk as it was.
func wantNotOver(t *testing.T, l *life, kept map[int64]api.Page) {
	t.Helper()
	d := l.p.Disk()
	for number, p := range kept {
		if _, lasts := l.told.pages[number]; !lasts {
			continue
		}
		if b, _ := d.Read(int(number)); !bytes.Equal(b, rawPage(number, p)) {
			t.Fatalf("%s: page %d, which is kept, was written over", l.what, number)
		}
	}
}

// wound changes something of a store's page, or of a meta's, if it comes so.
func (d *dice) wound(number int64, p *api.Page) {
	switch d.roll(9) {
	case 0:
		p.Kind = api.PageLeaf
	case 1:
		p.Next = int64(d.roll(int(number) + 4))
	case 2:
		p.Body = p.Body[:d.roll(len(p.Body)+1)]
	case 3:
		p.Body = p.Body[:d.roll(len(p.Body)+1)/4*4]
	case 4, 5:
		if at := d.roll(58) * 4; at < len(p.Body) {
			p.Body[at+3] += byte(d.roll(5))
		}
	case 6:
		p.Next = 0
	}
}

// P8.1: Open, of free lists some of which are none.
func TestAllOfOpen(t *testing.T) {
	made := map[api.Errno]int{}
	for seed := range 4000 {
		dice := dice(seed)
		room := 60 + dice.roll(200)
		high := int64(2 + dice.roll(room-1))
		var free, list []int64
		for number := int64(2); number < high; number++ {
			if dice.roll(3) > 0 {
				free = append(free, number)
			}
		}
		for range len(free)/58 + dice.roll(2) {
			if len(free) == 0 {
				break
			}
			at := dice.roll(len(free))
			list = append(list, free[at])
			free = slices.Delete(free, at, at+1)
		}
		d := freshDisk(t, room)
		m := api.Meta{Txid: int64(dice.roll(100)), High: high}
		if len(list) > 0 {
			m.Free = list[0]
		}
		lay(t, d, m.Txid%2, rawMeta(m))
		wounded := dice.roll(len(list) + 1)
		for i, number := range list {
			p := api.Page{Kind: api.PageFree, Next: append(list[i+1:], 0)[0], Body: bodyOf(free[min(58*i, len(free)):min(58*i+58, len(free))]...)}
			if i+1 == wounded {
				dice.wound(number, &p)
			}
			lay(t, d, number, rawPage(number, p))
		}
		want, err := storeTold(d)
		made[err]++
		p, e := pager.Open(d)
		if e != err || (p != nil) != (e == api.OK) {
			t.Fatalf("seed %d: Open: %v, want %v: %v %v %v", seed, e, err, m, list, free)
		}
		if e == api.OK && !isStore(p, want) {
			t.Fatalf("seed %d: Open: %v %v %v, want %v", seed, p.Meta(), p.List(), p.Space().Free(), want)
		}
	}
	if min(made[api.OK], made[api.ErrStore]) < 500 {
		t.Errorf("too few of a kind were looked at: %v", made)
	}
}

// crashes goes over all disks that a crash may leave of few pages that wait, each of them once written; of many over some.
func crashes(d *disk.Disk, waits int, see func(*disk.Disk)) {
	dice := dice(waits)
	sectors := 4 * waits
	all := 1 << sectors
	for i := range min(all, 4096) {
		picks := make([]int, sectors)
		for at := range picks {
			picks[at] = i >> at & 1
			if sectors > 12 {
				picks[at] = dice.roll(2)
			}
		}
		c, _ := d.Crash(picks...)
		see(c)
	}
}

// P8.4, P8.5: a commit that is stopped at each of its steps, and all that a crash then leaves.
func TestAllCrashesOfACommit(t *testing.T) {
	for _, writes := range []int{0, 1, 2, 3} {
		for _, drops := range [][]int64{nil, {2}, {4, 2}} {
			for steps := range writes + 5 {
				what := fmt.Sprintf("%d writes, drops %v, stop at %d", writes, drops, steps)
				l := newLife(t, writes, 20)
				l.what = what
				for range 4 {
					l.p.Write(api.PageLeaf, 0, []byte("elder"))
					l.told.write(api.PageLeaf, 0, []byte("elder"))
				}
				for range 2 { // so that there is an elder free list, if anything is free
					wantErr(t, what, l.p.Commit(3), l.told.commit(3))
					wantErr(t, what, l.p.Drop(5), l.told.drop(5))
				}
				for range writes {
					l.p.Write(api.PageLeaf, 0, bytes.Repeat([]byte("newer"), 40))
					l.told.write(api.PageLeaf, 0, bytes.Repeat([]byte("newer"), 40))
				}
				for _, number := range drops {
					wantErr(t, what, l.p.Drop(number), l.told.drop(number))
				}
				wantErr(t, what, l.d.Arm(api.ArmStop, steps), api.OK)
				l.told.disk.arm, l.told.disk.left = api.ArmStop, steps
				wantErr(t, what, l.p.Commit(3), l.told.commit(3))
				wantAll(t, what, l.p, l.told)
				metas := map[api.Meta]int{}
				crashes(l.d, len(l.told.disk.waits), func(c *disk.Disk) {
					wantCrash(t, what, c, l.told)
					metas[opened(t, c).Meta()]++
				})
				if l.told.broken && len(metas) != 2 {
					t.Errorf("%s: of a broken one: %v", what, metas)
				}
			}
		}
	}
}
