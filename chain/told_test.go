package chain_test

import (
	"bytes"
	"fmt"
	"maps"
	"math/bits"
	"slices"
	"testing"

	"pigeonry/api"
	"pigeonry/chain"
	"pigeonry/disk"
	"pigeonry/pager"
)

// putTold puts bytes as the chapter tells.
func putTold(p *pager.Pager, b []byte) (int64, api.Errno) {
	if len(b) < 1 || len(b) > 4096 {
		return 0, api.ErrArg
	}
	var bodies [][]byte
	for len(b) > 232 {
		bodies = append(bodies, b[:232])
		b = b[232:]
	}
	bodies = append(bodies, b)
	pages := []int64{0}
	for at := len(bodies) - 1; at >= 0; at-- {
		number, e := p.Write(api.PageChain, pages[len(pages)-1], bodies[at])
		if e != api.OK {
			for _, written := range pages[1:] {
				p.Drop(written)
			}
			return 0, e
		}
		pages = append(pages, number)
	}
	return pages[len(pages)-1], api.OK
}

// chainTold tells a chain: its bytes, its pages; none, if there is none.
func chainTold(p *pager.Pager, number, size int64) ([]byte, []int64) {
	one, e := p.Read(number)
	if e != api.OK || one.Kind != api.PageChain {
		return nil, nil
	}
	if size <= 232 {
		if one.Next != 0 || int64(len(one.Body)) != size {
			return nil, nil
		}
		return one.Body, []int64{number}
	}
	if one.Next == 0 || len(one.Body) != 232 {
		return nil, nil
	}
	b, pages := chainTold(p, one.Next, size-232)
	if pages == nil {
		return nil, nil
	}
	return append(one.Body, b...), append([]int64{number}, pages...)
}

// errTold tells what Get, Pages and Drop answer of such a chain.
func errTold(p *pager.Pager, pages []int64, size int64) api.Errno {
	switch {
	case p.Broken():
		return api.ErrBroken
	case size < 1 || size > 4096:
		return api.ErrArg
	case pages == nil:
		return api.ErrChain
	}
	return api.OK
}

// wantTold asks of a chain, and asks whether that changes nothing: p is asked, q stands alike.
func wantTold(t *testing.T, what string, p, q *pager.Pager, number, size int64) {
	t.Helper()
	var b []byte
	var pages []int64
	if size > 0 && size <= 4096 {
		b, pages = chainTold(q, number, size)
	}
	want := errTold(q, pages, size)
	if got, e := chain.Get(p, number, size); !bytes.Equal(got, b) || e != want || e != api.OK && got != nil {
		t.Fatalf("%s: Get(%d, %d): %d bytes %v, want %d %v", what, number, size, len(got), e, len(b), want)
	}
	if got, e := chain.Pages(p, number, size); !slices.Equal(got, pages) || e != want || e != api.OK && got != nil {
		t.Fatalf("%s: Pages(%d, %d): %v %v, want %v %v", what, number, size, got, e, pages, want)
	}
}

// dice tells numbers that are the same each time.
type dice uint32

func (d *dice) roll(n int) int {
	*d = *d*1664525 + 1013904223
	return int(uint64(bits.RotateLeft32(uint32(*d), 16)) % uint64(n))
}

// size tells one that may be, or nearly: most are few pages long.
func (d *dice) size() int64 {
	switch d.roll(4) {
	case 0:
		return int64(d.roll(4200))
	case 1:
		return int64(232*d.roll(18) + d.roll(3) - 1)
	}
	return int64(d.roll(800))
}

func (d *dice) bytes(size int64) []byte {
	b := make([]byte, max(size, 0), max(size, 0)+int64(d.roll(3)))
	for i := range b {
		b[i] = byte(d.roll(256))
	}
	return b
}

// P9.1, P9.2: all sizes, one behind the other.
func TestAllOfSizes(t *testing.T) {
	p, _ := fresh(t, 24)
	q := p.Copy()
	dice := dice(9)
	for size := int64(-3); size < 4400; size++ {
		what := fmt.Sprintf("%d bytes", size)
		need := int64(0)
		if size > 0 && size <= 4096 {
			for need*232 < size {
				need++
			}
		}
		if got := chain.Need(size); got != need {
			t.Fatalf("Need(%d): %d, want %d", size, got, need)
		}
		b := dice.bytes(size)
		was := bytes.Clone(b)
		first, e := chain.Put(p, b)
		if number, err := putTold(q, was); first != number || e != err || !bytes.Equal(b, was) {
			t.Fatalf("%s: Put: %d %v, want %d %v", what, first, e, number, err)
		}
		clear(b)
		for _, other := range []int64{size - 232, size - 1, size, size + 1, size + 232} {
			for number := first - 1; number < first+2; number++ {
				wantTold(t, what, p, q, number, other)
			}
		}
		if size%64 == 0 {
			wantAlike(t, what, p, q)
		}
		p.Abort()
		q.Abort()
	}
}

// P9.1: Put into each room, and some of it taken.
func TestAllOfRooms(t *testing.T) {
	for pages := 2; pages < 24; pages++ {
		for taken := range pages - 1 {
			for _, size := range edges() {
				what := fmt.Sprintf("%d bytes, %d pages, %d taken", size, pages, taken)
				p, _ := fresh(t, pages)
				for number := range taken {
					write(t, p, api.PageLeaf, 0, 3, int64(number)+2)
				}
				if taken > 2 { // so that it goes on ahead of others
					p.Drop(3)
				}
				q := p.Copy()
				first, e := chain.Put(p, some(size))
				if number, err := putTold(q, some(size)); first != number || e != err {
					t.Fatalf("%s: Put: %d %v, want %d %v", what, first, e, number, err)
				}
				wantAlike(t, what, p, q)
				if e == api.OK {
					wantTold(t, what, p, q, first, size)
				}
			}
		}
	}
}

// P9.1: three pages that lead to each other in all ways.
func TestAllOfLinks(t *testing.T) {
	bodies := []int64{1, 231, 232}
	ways := 5 * 3 // of a page: it leads to 0, 2 to 4, or 5, which is none
	made := map[int]int{}
	for way := range ways * ways * ways * 2 {
		p, _ := fresh(t, 12)
		of := way / 2
		for number := int64(2); number < 5; number++ {
			next := []int64{0, 2, 3, 4, 5}[of%5]
			kind := api.PageChain
			if way%2 == 1 && number == 3 {
				kind = api.PageBranch
			}
			write(t, p, kind, next, bodies[of/5%3], number)
			of /= ways
		}
		q := p.Copy()
		for number := int64(2); number < 6; number++ {
			for _, size := range []int64{1, 231, 232, 233, 463, 464, 465, 695, 696, 697, 928} {
				wantTold(t, fmt.Sprint("way ", way), p, q, number, size)
				b, pages := chainTold(q, number, size)
				made[len(pages)]++
				if b == nil {
					continue
				}
				p, gone := p.Copy(), q.Copy()
				wantErr(t, "Drop", chain.Drop(p, number, size), api.OK)
				for _, one := range pages {
					wantErr(t, "the pager's Drop", gone.Drop(one), api.OK)
				}
				wantAlike(t, fmt.Sprint("way ", way, ": Drop"), p, gone)
			}
		}
	}
	for pages := range 4 {
		if made[pages] < 10 {
			t.Errorf("too few of some pages: %v", made)
		}
	}
}

// put is a chain that was put: its bytes, and the pages that are its own.
type put struct {
	bytes []byte
	pages []int64
}

// life is a pager, its disk, another one on which all is done as the chapter tells, and what was put.
type life struct {
	t    *testing.T
	p, q *pager.Pager
	d, c *disk.Disk
	dice dice
	what string
	puts map[int64]put // by their first pages
	last map[int64]put // those that last
	root int64
	seen map[string]int
}

func newLife(t *testing.T, seed, pages int) *life {
	p, d := fresh(t, pages)
	l := &life{t: t, dice: dice(seed), p: p, d: d, puts: map[int64]put{}, last: map[int64]put{}}
	l.goesOn()
	return l
}

// goesOn lets the other one begin where the first one stands, on a disk of its own.
func (l *life) goesOn() {
	l.c = l.d.Copy()
	l.q = opened(l.t, l.c)
}

// same asks whether both answered the same.
func (l *life) same(call string, e, want api.Errno) {
	l.t.Helper()
	if e != want {
		l.t.Fatalf("%s: %s: %v, want %v", l.what, call, e, want)
	}
	l.seen[call+" "+e.Error()]++
}

// one tells the first page of some chain, or any number; and a size that is, or is nearly, that chain's.
func (l *life) one() (number, size int64) {
	number, size = int64(l.dice.roll(int(l.p.Space().High())+3))-1, l.dice.size()
	firsts := slices.Sorted(maps.Keys(l.puts))
	if len(firsts) > 0 && l.dice.roll(6) > 0 {
		number = firsts[l.dice.roll(len(firsts))]
		size = int64(len(l.puts[number].bytes))
	}
	switch l.dice.roll(10) {
	case 0:
		size += int64(l.dice.roll(3)) - 1
	case 1:
		size += 232 * (int64(l.dice.roll(3)) - 1)
	case 2:
		number = int64(l.dice.roll(int(l.p.Space().High()) + 3))
	}
	return number, size
}

func (l *life) put() {
	b := l.dice.bytes(l.dice.size())
	was := bytes.Clone(b[:cap(b)])
	number, e := chain.Put(l.p, b)
	want, err := int64(0), api.ErrBroken
	if !l.q.Broken() {
		want, err = putTold(l.q, b)
	}
	l.same("Put", e, err)
	if number != want || !bytes.Equal(b[:cap(b)], was) {
		l.t.Fatalf("%s: Put(%d bytes): %d, want %d", l.what, len(b), number, want)
	}
	if e == api.OK {
		_, pages := chainTold(l.q, number, int64(len(b)))
		l.puts[number] = put{b, pages}
	}
}

func (l *life) drop() {
	number, size := l.one()
	var pages []int64
	if size > 0 && size <= 4096 {
		_, pages = chainTold(l.q, number, size)
	}
	e := chain.Drop(l.p, number, size)
	l.same("Drop", e, errTold(l.q, pages, size))
	for _, page := range pages {
		l.q.Drop(page)
		l.gone(page)
	}
}

// gone takes what has a page out of what was put.
func (l *life) gone(page int64) {
	for first, one := range l.puts {
		if slices.Contains(one.pages, page) {
			delete(l.puts, first)
		}
	}
}

// other does something to a page of any Kind.
func (l *life) other() {
	if l.dice.roll(3) == 0 {
		page := int64(l.dice.roll(int(l.p.Space().High()) + 2))
		e := l.p.Drop(page)
		l.same("the pager's Drop", e, l.q.Drop(page))
		if e == api.OK {
			l.gone(page)
		}
		return
	}
	k := api.PageKind(2 + l.dice.roll(3))
	next := int64(l.dice.roll(int(l.p.Space().High()) + 2))
	b := l.dice.bytes([]int64{0, 1, 231, 232, 232, 232}[l.dice.roll(6)])
	number, e := l.p.Write(k, next, b)
	want, err := l.q.Write(k, next, b)
	l.same("the pager's Write", e, err)
	if number != want {
		l.t.Fatalf("%s: the pager's Write: %d, want %d", l.what, number, want)
	}
}

func (l *life) commit() {
	if l.dice.roll(3) == 0 {
		kind, steps := []api.Arm{api.ArmStop, api.ArmFail, api.ArmFail}[l.dice.roll(3)], l.dice.roll(12)
		l.d.Arm(kind, steps)
		l.c.Arm(kind, steps)
	}
	root, _ := l.one()
	if l.dice.roll(2) == 0 {
		root = 0
	}
	e := l.p.Commit(root)
	l.same("Commit", e, l.q.Commit(root))
	if e == api.OK {
		l.last = maps.Clone(l.puts)
		return
	}
	l.puts = maps.Clone(l.last)
}

func (l *life) abort() {
	e := l.p.Abort()
	l.same("Abort", e, l.q.Abort())
	l.puts = maps.Clone(l.last)
}

// crash goes on with what a crash leaves; of a broken one it is not known which commit that is.
func (l *life) crash() {
	broken := l.p.Broken()
	txid := l.p.Meta().Txid
	picks := []int{l.dice.roll(3) - 1, l.dice.roll(3) - 1, l.dice.roll(3) - 1}
	l.d, _ = l.d.Crash(picks...)
	l.p = opened(l.t, l.d)
	l.goesOn()
	l.seen["crash"]++
	if broken && l.p.Meta().Txid != txid {
		l.last = map[int64]put{}
		l.seen["another commit"]++
	}
	l.puts = maps.Clone(l.last)
}

// turn does something: at times it puts more than it drops, at others the other way round.
func (l *life) turn(grows bool) {
	switch roll := l.dice.roll(14); {
	case roll < 3 || grows && roll < 6:
		l.put()
	case roll < 7:
		l.drop()
	case roll < 9:
		l.other()
	case roll < 12:
		l.commit()
	case roll == 12:
		l.abort()
	case l.p.Broken() || l.d.Dead() || l.dice.roll(3) == 0:
		l.crash()
	}
}

// wantPuts asks for all that was put, as long as it is not broken.
func (l *life) wantPuts() {
	l.t.Helper()
	if l.p.Broken() {
		l.seen["broken"]++
		return
	}
	for first, one := range l.puts {
		b, e := chain.Get(l.p, first, int64(len(one.bytes)))
		pages, f := chain.Pages(l.p, first, int64(len(one.bytes)))
		if !bytes.Equal(b, one.bytes) || !slices.Equal(pages, one.pages) || e != api.OK || f != api.OK {
			l.t.Fatalf("%s: the chain at %d: %d bytes %v, %v %v, want %d, %v", l.what, first, len(b), e, pages, f, len(one.bytes), one.pages)
		}
		l.seen[fmt.Sprint("of ", len(pages))]++
	}
}

// P9.1, P9.2: long lives, beside a plain reckoning of what was put, and beside one on which all is done as the chapter tells.
func TestAllOfLongLives(t *testing.T) {
	seen := map[string]int{}
	for seed := range 60 {
		pages := []int{2, 4, 9, 25, 60, 150}[seed%6]
		l := newLife(t, seed, pages)
		l.seen = seen
		for step := range 150 {
			l.what = fmt.Sprintf("seed %d (%d pages), step %d", seed, pages, step)
			l.turn(step/25%2 == 0)
			for range 3 {
				number, size := l.one()
				wantTold(t, l.what, l.p, l.q, number, size)
			}
			wantAlike(t, l.what, l.p, l.q)
			l.wantPuts()
		}
	}
	for _, one := range []string{"Put error 0", "Put error 2", "Put error 170", "Put error 180", "Drop error 0", "Drop error 2", "Drop error 190", "Drop error 180", "Commit error 0", "crash", "broken", "of 1", "of 2", "of 18", "another commit"} {
		if seen[one] < 5 {
			t.Errorf("%s came about %d times: %v", one, seen[one], seen)
		}
	}
}
