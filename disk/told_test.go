package disk_test

import (
	"bytes"
	"slices"
	"testing"

	"pigeonry/api"
	"pigeonry/disk"
)

// told is a disk as the chapter tells it, word for word: all that was ever written, of which the first writes last.
type told struct {
	room   int
	writes []written
	lasts  int // how many of the writes
	kind   api.Arm
	left   int
	dead   bool
	steps  int64
}

type written struct {
	page int
	b    []byte
}

func (d *told) refused() api.Errno {
	switch {
	case d.dead:
		return api.ErrDead
	case d.kind == api.ArmNone:
	case d.left > 0:
		d.left--
	case d.kind == api.ArmStop:
		d.dead = true
		return api.ErrDead
	default:
		d.kind = api.ArmNone
		return api.ErrFault
	}
	d.steps++
	return api.OK
}

func (d *told) write(page int, b []byte) api.Errno {
	if len(b) != api.PageSize {
		return api.ErrArg
	}
	if page < 0 || page >= d.room {
		return api.ErrRange
	}
	err := d.refused()
	if err == api.OK {
		d.writes = append(d.writes, written{page, bytes.Clone(b)})
	}
	return err
}

func (d *told) flush() api.Errno {
	err := d.refused()
	if err == api.OK {
		d.lasts = len(d.writes)
	}
	return err
}

func (d *told) arm(kind api.Arm, steps int) api.Errno {
	if kind < api.ArmNone || kind > api.ArmFail || kind == api.ArmNone && steps >= 0 {
		return api.ErrArg
	}
	if d.dead {
		return api.ErrDead
	}
	d.kind, d.left = kind, steps
	if steps < 0 {
		d.kind = api.ArmNone
	}
	return api.OK
}

// of tells a page as the first n writes left it.
func (d *told) of(page, n int) []byte {
	b := make([]byte, api.PageSize)
	for _, w := range d.writes[:n] {
		if w.page == page {
			b = w.b
		}
	}
	return b
}

func (d *told) crash(picks ...int) *told {
	left := &told{room: d.room}
	for page := range d.room {
		may := [][]byte{d.of(page, d.lasts)}
		for _, w := range d.writes[d.lasts:] {
			if w.page == page {
				may = append(may, w.b)
			}
		}
		b := bytes.Clone(may[0])
		for place := range api.PageSize / api.Sector {
			pick := 0
			if len(may) > 1 && len(picks) > 0 {
				pick, picks = picks[0], picks[1:]
			}
			for pick < 0 {
				pick += len(may)
			}
			from, to := place*api.Sector, (place+1)*api.Sector
			copy(b[from:to], may[pick%len(may)][from:to])
		}
		left.writes = append(left.writes, written{page, b})
	}
	left.lasts = len(left.writes)
	return left
}

func (d *told) copy() *told {
	c := *d
	c.writes = slices.Clone(d.writes)
	return &c
}

func same(a, b *told) bool {
	alike := a.room == b.room && a.dead == b.dead
	if !alike || !a.dead && (a.kind != b.kind || a.kind != api.ArmNone && a.left != b.left) {
		return false
	}
	for page := range a.room {
		if !bytes.Equal(a.of(page, len(a.writes)), b.of(page, len(b.writes))) || !bytes.Equal(a.of(page, a.lasts), b.of(page, b.lasts)) {
			return false
		}
	}
	return slices.EqualFunc(a.writes[a.lasts:], b.writes[b.lasts:], func(v, w written) bool {
		return v.page == w.page && bytes.Equal(v.b, w.b)
	})
}

// pair is a disk, and what it should be.
type pair struct {
	d    *disk.Disk
	told *told
}

func (p pair) check(t *testing.T) {
	t.Helper()
	if p.d.Pages() != p.told.room {
		t.Fatalf("Pages: %d, want %d", p.d.Pages(), p.told.room)
	}
	wantDead(t, p.d, p.told.dead)
	wantCounts(t, p.d, len(p.told.writes)-p.told.lasts, p.told.steps)
	for page := range p.told.room {
		wantPage(t, p.d, page, p.told.of(page, len(p.told.writes)))
	}
}

// dice tells numbers that are the same each time.
type dice uint32

func (d *dice) roll(n int) int {
	*d = *d*1664525 + 1013904223
	return int(*d>>8) % n
}

// bytes tells a page of few different sectors, so that pages are alike by chance; seldom one of another length.
func (d *dice) bytes() []byte {
	if d.roll(20) == 0 {
		return make([]byte, d.roll(2*api.PageSize))
	}
	sectors := []byte{0, 'a', 'b'}
	var page []byte
	for range api.PageSize / api.Sector {
		page = append(page, bytes.Repeat(sectors[d.roll(3):][:1], api.Sector)...)
	}
	return page
}

func (d *dice) picks() []int {
	picks := make([]int, d.roll(14))
	for i := range picks {
		picks[i] = d.roll(21) - 10
	}
	return picks
}

// turn does one thing to a pair, and tells the pair to go on with.
func (d *dice) turn(t *testing.T, p pair) pair {
	t.Helper()
	switch d.roll(12) {
	case 0, 1:
		wantErr(t, "Flush", p.d.Flush(), p.told.flush())
	case 2:
		kind, steps := api.Arm(d.roll(5)-1), d.roll(9)-3
		wantErr(t, "Arm", p.d.Arm(kind, steps), p.told.arm(kind, steps))
	case 3:
		picks := d.picks()
		return pair{crash(t, p.d, picks...), p.told.crash(picks...)}
	case 4:
		return pair{p.d.Copy(), p.told.copy()}
	default:
		page, b := d.roll(p.told.room+2)-1, d.bytes()
		wantErr(t, "Write", p.d.Write(page, b), p.told.write(page, b))
	}
	return p
}

func TestDiskAsTold(t *testing.T) {
	for seed := range 150 {
		d := dice(seed)
		room := 2 + d.roll(3)
		pairs := []pair{{fresh(t, room), &told{room: room}}}
		for range 120 {
			at := d.roll(len(pairs))
			next := d.turn(t, pairs[at])
			if next.d != pairs[at].d {
				pairs = append(pairs, next)
			}
			pairs[at].check(t)
			next.check(t)
			if t.Failed() {
				t.Fatalf("seed %d", seed)
			}
		}
		for _, p := range pairs {
			p.check(t)
			for _, q := range pairs {
				if disk.Same(p.d, q.d) != same(p.told, q.told) {
					t.Fatalf("seed %d: Same %v", seed, disk.Same(p.d, q.d))
				}
			}
		}
	}
}

// P2.4: each sector that a crash leaves is as it lasted, or as a write that waited left it; of those no such write touched, as it lasted.
func TestCrashLeavesWhatWasThere(t *testing.T) {
	const room = 6
	for seed := range 200 {
		dice := dice(seed)
		d := fresh(t, room)
		for range 10 {
			d.Write(dice.roll(room), dice.bytes())
		}
		flush(t, d)
		lasts := crash(t, d)
		var may [room][][]byte
		for page := range room {
			b, _ := lasts.Read(page)
			may[page] = [][]byte{b}
		}
		for range dice.roll(8) {
			page, b := dice.roll(room-1), dice.bytes()
			if d.Write(page, b) == api.OK {
				may[page] = append(may[page], b)
			}
		}
		c := crash(t, d, dice.picks()...)
		for page := range room {
			b, _ := c.Read(page)
			for from := 0; from < api.PageSize; from += api.Sector {
				sector := func(m []byte) bool { return bytes.Equal(m[from:][:api.Sector], b[from:][:api.Sector]) }
				if !slices.ContainsFunc(may[page], sector) {
					t.Errorf("seed %d: page %d, from byte %d: %x was never there", seed, page, from, b[from:][:api.Sector])
				}
			}
		}
		if d.Waits() == 0 {
			wantSame(t, "a crash where nothing waits", c, lasts, true)
		}
	}
}

func TestDiskOfMuch(t *testing.T) {
	d := fresh(t, api.MaxPages)
	for round := range 3 {
		for page := range api.MaxPages {
			write(t, d, page, all(byte(page+round)))
		}
	}
	wantCounts(t, d, 3*api.MaxPages, 3*api.MaxPages)
	picks := make([]int, 4*api.MaxPages)
	for i := range picks {
		picks[i] = i / 4
	}
	c := crash(t, d, picks...)
	for page := range api.MaxPages {
		want := all(0)
		if nth := page % 4; nth > 0 {
			want = all(byte(page + nth - 1))
		}
		wantPage(t, c, page, want)
		wantPage(t, d, page, all(byte(page+2)))
	}
}
