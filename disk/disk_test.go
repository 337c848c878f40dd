package disk_test

import (
	"bytes"
	"math"
	"testing"

	"pigeonry/api"
	"pigeonry/disk"
)

// all tells a page of one byte, again and again.
func all(b byte) []byte { return bytes.Repeat([]byte{b}, api.PageSize) }

// mixed tells a page of four sectors, each of one byte.
func mixed(sectors string) []byte {
	var page []byte
	for i := range len(sectors) {
		page = append(page, bytes.Repeat([]byte{sectors[i]}, api.Sector)...)
	}
	return page
}

func wantErr(t *testing.T, what string, got, want api.Errno) {
	t.Helper()
	if got != want {
		t.Errorf("%s: %v, want %v", what, got, want)
	}
}

func fresh(t *testing.T, pages int) *disk.Disk {
	t.Helper()
	d, err := disk.New(pages)
	if err != api.OK || d == nil {
		t.Fatalf("New(%d): %v %v", pages, d, err)
	}
	return d
}

func write(t *testing.T, d *disk.Disk, page int, b []byte) {
	t.Helper()
	wantErr(t, "Write", d.Write(page, b), api.OK)
}

func flush(t *testing.T, d *disk.Disk) {
	t.Helper()
	wantErr(t, "Flush", d.Flush(), api.OK)
}

func arm(t *testing.T, d *disk.Disk, kind api.Arm, steps int) {
	t.Helper()
	wantErr(t, "Arm", d.Arm(kind, steps), api.OK)
}

func crash(t *testing.T, d *disk.Disk, picks ...int) *disk.Disk {
	t.Helper()
	c, err := d.Crash(picks...)
	if err != api.OK || c == nil {
		t.Fatalf("Crash(%v): %v %v", picks, c, err)
	}
	return c
}

func wantPage(t *testing.T, d *disk.Disk, page int, want []byte) {
	t.Helper()
	got, err := d.Read(page)
	if err != api.OK || !bytes.Equal(got, want) {
		t.Errorf("Read(%d): %x %v, want %x", page, got, err, want)
	}
}

func wantCounts(t *testing.T, d *disk.Disk, waits int, steps int64) {
	t.Helper()
	if d.Waits() != waits || d.Steps() != steps {
		t.Errorf("Waits %d, Steps %d; want %d, %d", d.Waits(), d.Steps(), waits, steps)
	}
}

func wantDead(t *testing.T, d *disk.Disk, want bool) {
	t.Helper()
	if d.Dead() != want {
		t.Errorf("Dead: %v", d.Dead())
	}
}

// wantSame asks both ways round.
func wantSame(t *testing.T, what string, a, b *disk.Disk, want bool) {
	t.Helper()
	if disk.Same(a, b) != want || disk.Same(b, a) != want {
		t.Errorf("%s: Same %v, the other way round %v; want %v", what, disk.Same(a, b), disk.Same(b, a), want)
	}
}

// dying kills a disk that is not dead yet.
func dying(t *testing.T, d *disk.Disk) *disk.Disk {
	t.Helper()
	arm(t, d, api.ArmStop, 0)
	wantErr(t, "the step that kills", d.Flush(), api.ErrDead)
	wantDead(t, d, true)
	return d
}

// P2.1: New

func TestNewIsOfNoughts(t *testing.T) {
	for _, pages := range []int{2, 3, 100, api.MaxPages - 1, api.MaxPages} {
		d := fresh(t, pages)
		if d.Pages() != pages || d.Dead() {
			t.Errorf("New(%d): Pages %d, Dead %v", pages, d.Pages(), d.Dead())
		}
		wantCounts(t, d, 0, 0)
		for page := range pages {
			wantPage(t, d, page, all(0))
		}
	}
}

func TestNewOfNoRoom(t *testing.T) {
	for _, pages := range []int{1, 0, -1, -2, api.MaxPages + 1, 2 * api.MaxPages, math.MaxInt32, math.MinInt32, math.MaxInt, math.MinInt} {
		if d, err := disk.New(pages); d != nil || err != api.ErrArg {
			t.Errorf("New(%d): %v %v, want nil %v", pages, d, err, api.ErrArg)
		}
	}
}

func TestNewOnesGoApart(t *testing.T) {
	a, b := fresh(t, 2), fresh(t, 2)
	write(t, a, 0, all('a'))
	wantPage(t, b, 0, all(0))
	wantCounts(t, b, 0, 0)
}

// P2.1: Write

func TestWriteIsReadAndWaits(t *testing.T) {
	for _, pages := range []int{2, api.MaxPages} {
		d := fresh(t, pages)
		write(t, d, 0, all('a'))
		write(t, d, pages-1, mixed("wxyz"))
		wantPage(t, d, 0, all('a'))
		wantPage(t, d, pages-1, mixed("wxyz"))
		wantCounts(t, d, 2, 2)
	}
}

func TestWriteTwiceWhileItWaits(t *testing.T) {
	d := fresh(t, 2)
	write(t, d, 1, all('a'))
	write(t, d, 1, all('b'))
	write(t, d, 1, all('b'))
	wantPage(t, d, 1, all('b'))
	wantPage(t, d, 0, all(0))
	wantCounts(t, d, 3, 3)
	flush(t, d)
	wantPage(t, d, 1, all('b'))
	wantPage(t, crash(t, d, 1, 2, 3, 1), 1, all('b'))
}

func TestWriteOfNoughts(t *testing.T) {
	d := fresh(t, 2)
	write(t, d, 0, all('a'))
	flush(t, d)
	write(t, d, 0, all(0))
	wantPage(t, d, 0, all(0))
	wantPage(t, crash(t, d), 0, all('a'))
	flush(t, d)
	wantPage(t, crash(t, d), 0, all(0))
}

func TestWriteOfOtherLengths(t *testing.T) {
	d := fresh(t, 2)
	for _, n := range []int{0, 1, api.Sector, api.PageSize - 1, api.PageSize + 1, 2 * api.PageSize} {
		for _, page := range []int{0, 1, 2, -1, math.MaxInt, math.MinInt} {
			wantErr(t, "Write of another length", d.Write(page, make([]byte, n, 2*api.PageSize)), api.ErrArg)
		}
	}
	wantErr(t, "Write of nil", d.Write(0, nil), api.ErrArg)
	wantCounts(t, d, 0, 0)
	wantSame(t, "refused writes", d, fresh(t, 2), true)
}

func TestWriteOfNoPage(t *testing.T) {
	for _, pages := range []int{2, 7, api.MaxPages} {
		d := fresh(t, pages)
		for _, page := range []int{-1, -2, pages, pages + 1, -pages, math.MaxInt, math.MinInt, math.MaxInt32 + 1} {
			wantErr(t, "Write of no page", d.Write(page, all('a')), api.ErrRange)
		}
		wantCounts(t, d, 0, 0)
		wantSame(t, "refused writes", d, fresh(t, pages), true)
	}
}

func TestWriteKeepsNoBytes(t *testing.T) {
	d := fresh(t, 2)
	room := append(all('a'), all('z')...)
	b := room[:api.PageSize]
	write(t, d, 0, b)
	if !bytes.Equal(room, append(all('a'), all('z')...)) {
		t.Error("the bytes were changed")
	}
	clear(room)
	wantPage(t, d, 0, all('a'))
	flush(t, d)
	wantPage(t, d, 0, all('a'))
}

// P2.1: Flush

func TestFlushMakesAllLast(t *testing.T) {
	d := fresh(t, 3)
	write(t, d, 0, all('a'))
	write(t, d, 2, all('b'))
	write(t, d, 0, all('c'))
	wantPage(t, crash(t, d), 0, all(0))
	flush(t, d)
	wantCounts(t, d, 0, 4)
	for _, c := range []*disk.Disk{d, crash(t, d), crash(t, d, 1, 1, 1, 1, 1, 1, 1, 1)} {
		wantPage(t, c, 0, all('c'))
		wantPage(t, c, 1, all(0))
		wantPage(t, c, 2, all('b'))
	}
}

func TestFlushWithNothingWaiting(t *testing.T) {
	d := fresh(t, 2)
	flush(t, d)
	wantCounts(t, d, 0, 1)
	write(t, d, 0, all('a'))
	flush(t, d)
	flush(t, d)
	wantCounts(t, d, 0, 4)
	wantPage(t, d, 0, all('a'))
	arm(t, d, api.ArmFail, 1)
	flush(t, d)
	wantErr(t, "Flush", d.Flush(), api.ErrFault)
	wantCounts(t, d, 0, 5)
}

func TestFlushThatIsRefusedLeavesWhatWaits(t *testing.T) {
	for kind, want := range map[api.Arm]api.Errno{api.ArmStop: api.ErrDead, api.ArmFail: api.ErrFault} {
		d := fresh(t, 2)
		write(t, d, 0, all('a'))
		arm(t, d, kind, 0)
		wantErr(t, "Flush", d.Flush(), want)
		wantCounts(t, d, 1, 1)
		wantPage(t, d, 0, all('a'))
		wantPage(t, crash(t, d), 0, all(0))
		wantPage(t, crash(t, d, 1, 1, 1, 1), 0, all('a'))
	}
}

// P2.1: Read

func TestReadOfNoPage(t *testing.T) {
	for _, pages := range []int{2, 7, api.MaxPages} {
		for _, d := range []*disk.Disk{fresh(t, pages), dying(t, fresh(t, pages))} {
			for _, page := range []int{-1, pages, pages + 1, -pages, math.MaxInt, math.MinInt} {
				if b, err := d.Read(page); b != nil || err != api.ErrRange {
					t.Errorf("Read(%d) of %d: %x %v, want none, %v", page, pages, b, err, api.ErrRange)
				}
			}
		}
	}
}

func TestReadTellsNewMemory(t *testing.T) {
	d := fresh(t, 3)
	write(t, d, 0, all('a'))
	flush(t, d)
	write(t, d, 1, all('b'))
	want := [][]byte{all('a'), all('b'), all(0)}
	for page := range want {
		first, _ := d.Read(page)
		second, _ := d.Read(page)
		for i := range first {
			first[i] = '!'
		}
		if !bytes.Equal(second, want[page]) {
			t.Errorf("two answers of page %d share memory", page)
		}
		wantPage(t, d, page, want[page])
	}
}

func TestReadOfADeadDisk(t *testing.T) {
	d := fresh(t, 3)
	write(t, d, 0, all('a'))
	flush(t, d)
	write(t, d, 0, all('b'))
	write(t, d, 1, all('c'))
	d = dying(t, d)
	wantErr(t, "Write", d.Write(0, all('d')), api.ErrDead)
	wantPage(t, d, 0, all('b'))
	wantPage(t, d, 1, all('c'))
	wantPage(t, d, 2, all(0))
}

// P2.2: Arm, Dead

func TestArmFail(t *testing.T) {
	for steps := range 6 {
		d := fresh(t, 2)
		arm(t, d, api.ArmFail, steps)
		for i := range 12 {
			want := api.OK
			if i == steps {
				want = api.ErrFault
			}
			if i%3 == 2 {
				wantErr(t, "Flush", d.Flush(), want)
			} else {
				wantErr(t, "Write", d.Write(i%2, all(byte(i))), want)
			}
			wantDead(t, d, false)
		}
		if d.Steps() != 11 {
			t.Errorf("Steps: %d, want 11", d.Steps())
		}
	}
}

func TestArmFailExample(t *testing.T) {
	d := fresh(t, 2)
	arm(t, d, api.ArmFail, 1)
	wantErr(t, "Write of a", d.Write(1, all('a')), api.OK)
	wantErr(t, "Write of b", d.Write(1, all('b')), api.ErrFault)
	wantErr(t, "Flush", d.Flush(), api.OK)
	wantPage(t, d, 1, all('a'))
	wantPage(t, crash(t, d), 1, all('a'))
	wantCounts(t, d, 0, 2)
}

func TestArmStop(t *testing.T) {
	for steps := range 6 {
		d := fresh(t, 2)
		arm(t, d, api.ArmStop, steps)
		for i := range 12 {
			want := api.OK
			if i >= steps {
				want = api.ErrDead
			}
			wantDead(t, d, i > steps)
			if i%3 == 2 {
				wantErr(t, "Flush", d.Flush(), want)
			} else {
				wantErr(t, "Write", d.Write(i%2, all(byte(i+1))), want)
			}
		}
		if d.Steps() != int64(steps) {
			t.Errorf("Steps: %d, want %d", d.Steps(), steps)
		}
	}
}

func TestArmStopExample(t *testing.T) {
	d := fresh(t, 2)
	arm(t, d, api.ArmStop, 0)
	wantErr(t, "Flush", d.Flush(), api.ErrDead)
	wantErr(t, "Write", d.Write(1, all('b')), api.ErrDead)
	wantDead(t, d, true)
	wantErr(t, "Write of no page", d.Write(2, all('b')), api.ErrRange)
	wantErr(t, "Write of no bytes", d.Write(2, nil), api.ErrArg)
	wantPage(t, d, 1, all(0))
	wantCounts(t, d, 0, 0)
}

func TestArmIsNotDeadAheadOfTheStep(t *testing.T) {
	d := fresh(t, 2)
	arm(t, d, api.ArmStop, 0)
	wantDead(t, d, false)
	arm(t, d, api.ArmNone, -1)
	flush(t, d)
	wantDead(t, d, false)
}

func TestArmOfHugeNumbers(t *testing.T) {
	for _, kind := range []api.Arm{api.ArmStop, api.ArmFail} {
		d := fresh(t, 2)
		arm(t, d, kind, math.MaxInt)
		for range 100 {
			flush(t, d)
		}
		arm(t, d, kind, math.MinInt)
		flush(t, d)
	}
}

func TestArmBelowNoughtIsArmedNoMore(t *testing.T) {
	for _, ahead := range []api.Arm{api.ArmStop, api.ArmFail} {
		for _, kind := range []api.Arm{api.ArmNone, api.ArmStop, api.ArmFail} {
			for _, steps := range []int{-1, -2, math.MinInt32, math.MinInt} {
				d := fresh(t, 2)
				arm(t, d, ahead, 0)
				arm(t, d, kind, steps)
				wantSame(t, "armed no more", d, fresh(t, 2), true)
				flush(t, d)
				write(t, d, 0, all('a'))
				wantDead(t, d, false)
			}
		}
	}
}

func TestArmAnew(t *testing.T) {
	d := fresh(t, 2)
	arm(t, d, api.ArmStop, 0)
	arm(t, d, api.ArmFail, 1)
	flush(t, d)
	arm(t, d, api.ArmFail, 1)
	flush(t, d)
	wantErr(t, "Flush", d.Flush(), api.ErrFault)
	arm(t, d, api.ArmFail, 0)
	wantErr(t, "Flush", d.Flush(), api.ErrFault)
	arm(t, d, api.ArmFail, 0)
	arm(t, d, api.ArmStop, 1)
	flush(t, d)
	wantErr(t, "Flush", d.Flush(), api.ErrDead)
}

func TestArmThatMayNotBe(t *testing.T) {
	bad := []struct {
		kind  api.Arm
		steps int
	}{
		{api.ArmNone, 0}, {api.ArmNone, 1}, {api.ArmNone, math.MaxInt},
		{3, 0}, {3, -1}, {-1, 0}, {-1, -1}, {math.MaxInt, 5}, {math.MinInt, -5},
	}
	d := fresh(t, 2)
	arm(t, d, api.ArmFail, 1)
	for _, b := range bad {
		wantErr(t, "Arm that may not be", d.Arm(b.kind, b.steps), api.ErrArg)
	}
	flush(t, d)
	wantErr(t, "Flush: armed as ahead of them", d.Flush(), api.ErrFault)
	d = dying(t, d)
	for _, b := range bad {
		wantErr(t, "Arm that may not be, of a dead disk", d.Arm(b.kind, b.steps), api.ErrArg)
	}
}

func TestArmOfADeadDisk(t *testing.T) {
	d := dying(t, fresh(t, 2))
	for _, kind := range []api.Arm{api.ArmNone, api.ArmStop, api.ArmFail} {
		wantErr(t, "Arm below 0", d.Arm(kind, -1), api.ErrDead)
	}
	wantErr(t, "Arm", d.Arm(api.ArmStop, 3), api.ErrDead)
	wantErr(t, "Arm", d.Arm(api.ArmFail, 0), api.ErrDead)
	wantErr(t, "Flush", d.Flush(), api.ErrDead)
	wantDead(t, d, true)
}

// Nothing but a write of a page there is, and a flush, is a step.
func TestWhatIsNoStep(t *testing.T) {
	for kind, want := range map[api.Arm]api.Errno{api.ArmStop: api.ErrDead, api.ArmFail: api.ErrFault} {
		d := fresh(t, 2)
		arm(t, d, kind, 1)
		for range 3 {
			d.Read(0)
			d.Read(9)
			d.Crash(1)
			d.Copy().Flush()
			disk.Same(d, d)
			d.Arm(api.ArmNone, 0)
			wantErr(t, "Write of no bytes", d.Write(0, nil), api.ErrArg)
			wantErr(t, "Write of no page", d.Write(2, all('a')), api.ErrRange)
		}
		wantCounts(t, d, 0, 0)
		write(t, d, 0, all('a'))
		wantErr(t, "Write of no bytes", d.Write(0, nil), api.ErrArg)
		wantErr(t, "Write of no page", d.Write(2, all('a')), api.ErrRange)
		wantDead(t, d, false)
		wantErr(t, "Write", d.Write(0, all('b')), want)
	}
}

// P2.2, P2.4: Crash

func TestCrashExample(t *testing.T) {
	d := fresh(t, 2)
	write(t, d, 0, all('a'))
	write(t, d, 0, all('b'))
	wantPage(t, crash(t, d, 1, 2, 0), 0, mixed("ab\x00\x00"))
}

func TestCrashGoesByPagesThenByPlaces(t *testing.T) {
	d := fresh(t, 5)
	write(t, d, 1, mixed("1234"))
	write(t, d, 3, mixed("5678"))
	flush(t, d)
	write(t, d, 3, mixed("efgh"))
	write(t, d, 0, mixed("abcd"))
	write(t, d, 3, mixed("ijkl"))
	c := crash(t, d, 1, 0, 0, 1, 2, 1, 0, 2, 1, 1, 1)
	wantPage(t, c, 0, mixed("a\x00\x00d"))
	wantPage(t, c, 1, mixed("1234"))
	wantPage(t, c, 2, all(0))
	wantPage(t, c, 3, mixed("if7l"))
	wantPage(t, c, 4, all(0))
}

func TestCrashLeavesAnotherDisk(t *testing.T) {
	for _, kind := range []api.Arm{api.ArmStop, api.ArmFail} {
		d := fresh(t, 3)
		write(t, d, 0, all('a'))
		flush(t, d)
		write(t, d, 0, all('b'))
		arm(t, d, kind, 0)
		c := crash(t, d, 1, 1)
		if c.Pages() != 3 {
			t.Errorf("Pages: %d", c.Pages())
		}
		wantCounts(t, c, 0, 0)
		wantDead(t, c, false)
		flush(t, c)
		write(t, c, 1, all('c'))
		wantPage(t, c, 0, mixed("bbaa"))
		wantPage(t, crash(t, c), 0, mixed("bbaa"))

		wantCounts(t, d, 1, 3)
		wantPage(t, d, 0, all('b'))
		wantPage(t, d, 1, all(0))
		if d.Flush() == api.OK {
			t.Error("the crash took what armed the disk")
		}
		write(t, c, 0, all('z'))
		flush(t, c)
		wantPage(t, crash(t, d), 0, all('a'))
	}
}

func TestCrashOfADeadDisk(t *testing.T) {
	d := fresh(t, 2)
	write(t, d, 0, all('a'))
	write(t, d, 0, all('b'))
	c := crash(t, dying(t, d), 2, 1)
	wantDead(t, c, false)
	wantPage(t, c, 0, mixed("ba\x00\x00"))
	write(t, c, 0, all('c'))
	flush(t, c)
	wantPage(t, crash(t, c), 0, all('c'))
	wantDead(t, d, true)
}

func TestCrashOfFewAndOfManyPicks(t *testing.T) {
	d := fresh(t, 2)
	write(t, d, 0, all('a'))
	write(t, d, 1, all('b'))
	ones := []int{1, 1, 1, 1, 1, 1, 1, 1, 1, 1, 1, 1}
	for n := range len(ones) + 1 {
		c := crash(t, d, ones[:n]...)
		left := func(b byte, n int) []byte {
			page := all(0)
			for i := range min(max(n, 0), 4) * api.Sector {
				page[i] = b
			}
			return page
		}
		wantPage(t, c, 0, left('a', n))
		wantPage(t, c, 1, left('b', n-4))
	}
	wantPage(t, crash(t, d), 0, all(0))
	wantPage(t, crash(t, d, nil...), 1, all(0))
}

func TestCrashBringsPicksRound(t *testing.T) {
	d := fresh(t, 2)
	write(t, d, 0, all('x'))
	flush(t, d)
	write(t, d, 0, all('a'))
	write(t, d, 0, all('b'))
	for pick, want := range map[int]byte{
		0: 'x', 1: 'a', 2: 'b', 3: 'x', 4: 'a', 5: 'b', 3000: 'x', 3001: 'a',
		-1: 'b', -2: 'a', -3: 'x', -4: 'b', -3000: 'x', -3001: 'b',
		math.MaxInt: 'a', math.MaxInt - 1: 'x', math.MinInt: 'a', math.MinInt + 1: 'b',
	} {
		wantPage(t, crash(t, d, pick, pick, pick, pick), 0, all(want))
	}
	for pick, want := range map[int]byte{math.MaxInt: 'a', math.MinInt: 0, -1: 'a', -2: 0} {
		one := fresh(t, 2)
		write(t, one, 0, all('a'))
		wantPage(t, crash(t, one, 0, pick), 0, mixed("\x00"+string(want)+"\x00\x00"))
	}
}

// A write takes a pick of each of its sectors, whether or not it changes what stands there.
func TestCrashCountsWritesThatChangeNothing(t *testing.T) {
	d := fresh(t, 3)
	write(t, d, 0, all('a'))
	flush(t, d)
	write(t, d, 0, all('a'))
	write(t, d, 1, all(0))
	write(t, d, 1, mixed("bccb"))
	write(t, d, 2, all('d'))
	c := crash(t, d, 1, 0, 1, 1, 2, 1, 2, 0, 1)
	wantPage(t, c, 0, all('a'))
	wantPage(t, c, 1, mixed("b\x00c\x00"))
	wantPage(t, c, 2, mixed("d\x00\x00\x00"))
}

func TestCrashWhereNothingWaits(t *testing.T) {
	d := fresh(t, 3)
	for _, picks := range [][]int{nil, {0}, {1, 1, 1, 1}, {-1, 7, 9}} {
		wantSame(t, "a crash of a new disk", crash(t, d, picks...), d, true)
	}
	write(t, d, 2, mixed("abcd"))
	write(t, d, 2, mixed("efgh"))
	flush(t, d)
	for _, picks := range [][]int{nil, {0}, {1, 1, 1, 1}, {-1, 7, 9}} {
		wantSame(t, "a crash behind a flush", crash(t, d, picks...), d, true)
	}
}

func TestCrashLeavesItsPicks(t *testing.T) {
	d := fresh(t, 2)
	write(t, d, 0, all('a'))
	picks := []int{1, -1, 5, 0, 9, 9}
	crash(t, d, picks[:4]...)
	for i, want := range []int{1, -1, 5, 0, 9, 9} {
		if picks[i] != want {
			t.Errorf("pick %d is %d now", i, picks[i])
		}
	}
	first := crash(t, d, picks...)
	clear(picks)
	wantPage(t, first, 0, mixed("aaa\x00"))
}

// Behind a crash just what the picks left counts: what waited is forgotten.
func TestCrashTwice(t *testing.T) {
	d := fresh(t, 2)
	write(t, d, 0, all('a'))
	c := crash(t, d, 1, 0, 1, 0)
	wantPage(t, crash(t, c, 1, 1, 1, 1), 0, mixed("a\x00a\x00"))
	write(t, c, 0, all('b'))
	wantPage(t, crash(t, c, 0, 1, 1, 0), 0, mixed("abb\x00"))
}

// P2.3: Copy

func TestCopyStandsAlike(t *testing.T) {
	d := fresh(t, 3)
	write(t, d, 0, all('a'))
	flush(t, d)
	write(t, d, 0, all('b'))
	write(t, d, 1, all('c'))
	arm(t, d, api.ArmFail, 2)
	c := d.Copy()
	if c == nil || c == d {
		t.Fatal("Copy: not another one")
	}
	wantSame(t, "a copy", c, d, true)
	if c.Pages() != 3 {
		t.Errorf("Pages: %d", c.Pages())
	}
	wantCounts(t, c, 2, 4)
	wantPage(t, c, 0, all('b'))
	wantPage(t, c, 1, all('c'))
	wantPage(t, crash(t, c, 0, 1, 1, 0, 1), 0, mixed("abba"))
	flush(t, c)
	flush(t, c)
	wantErr(t, "Flush of the copy", c.Flush(), api.ErrFault)
	wantCounts(t, d, 2, 4)
	flush(t, d)
	flush(t, d)
	wantErr(t, "Flush of the first", d.Flush(), api.ErrFault)
}

func TestCopyGoesOnApart(t *testing.T) {
	d := fresh(t, 3)
	for _, b := range []byte("abc") {
		write(t, d, 0, all(b))
	}
	c := d.Copy()
	write(t, d, 0, all('d'))
	write(t, c, 0, all('e'))
	write(t, c, 1, all('f'))
	wantPage(t, d, 0, all('d'))
	wantPage(t, d, 1, all(0))
	wantPage(t, c, 0, all('e'))
	wantCounts(t, d, 4, 4)
	wantCounts(t, c, 5, 5)
	wantPage(t, crash(t, d, 3, 4), 0, mixed("cd\x00\x00"))
	wantPage(t, crash(t, c, 3, 4), 0, mixed("ce\x00\x00"))

	flush(t, d)
	wantCounts(t, c, 5, 5)
	wantPage(t, crash(t, c), 0, all(0))
	wantPage(t, crash(t, d), 0, all('d'))
	arm(t, d, api.ArmStop, 0)
	wantErr(t, "Flush", d.Flush(), api.ErrDead)
	wantDead(t, c, false)
	flush(t, c)
	wantPage(t, crash(t, c), 1, all('f'))
	wantPage(t, d, 1, all(0))
}

func TestCopyOfADeadDisk(t *testing.T) {
	d := dying(t, fresh(t, 2))
	c := d.Copy()
	wantDead(t, c, true)
	wantErr(t, "Flush", c.Flush(), api.ErrDead)
	wantSame(t, "a copy of a dead one", c, d, true)
}

// P2.3: Same

// turn is something that is done to a disk, on the way to one that is held against another.
type turn func(t *testing.T, d *disk.Disk)

func waiting(page int, b byte) turn {
	return func(t *testing.T, d *disk.Disk) { t.Helper(); write(t, d, page, all(b)) }
}

func lasting(t *testing.T, d *disk.Disk) { t.Helper(); flush(t, d) }

func armed(kind api.Arm, steps int) turn {
	return func(t *testing.T, d *disk.Disk) { t.Helper(); arm(t, d, kind, steps) }
}

func dead(t *testing.T, d *disk.Disk) { t.Helper(); dying(t, d) }

func faulty(t *testing.T, d *disk.Disk) {
	t.Helper()
	arm(t, d, api.ArmFail, 0)
	wantErr(t, "the step that fails", d.Flush(), api.ErrFault)
}

func after(t *testing.T, turns ...turn) *disk.Disk {
	t.Helper()
	d := fresh(t, 3)
	for _, do := range turns {
		do(t, d)
	}
	return d
}

func TestSameOnes(t *testing.T) {
	alike := map[string][2][]turn{
		"nothing done":                 {{}, {}},
		"steps are not looked at":      {{lasting, lasting}, {}},
		"noughts last as never did":    {{waiting(0, 0), lasting}, {}},
		"written in another order":     {{waiting(0, 'a'), waiting(1, 'b'), lasting}, {waiting(1, 'b'), waiting(0, 'a'), lasting}},
		"written over and over":        {{waiting(0, 'a'), waiting(0, 'b'), lasting}, {waiting(0, 'c'), lasting, waiting(0, 'b'), lasting}},
		"written back to noughts":      {{waiting(2, 'a'), lasting, waiting(2, 0), lasting}, {}},
		"the same waits":               {{waiting(0, 'a'), waiting(1, 'b')}, {lasting, waiting(0, 'a'), waiting(1, 'b')}},
		"armed alike":                  {{armed(api.ArmStop, 3)}, {armed(api.ArmFail, 1), armed(api.ArmStop, 3)}},
		"armed alike by what was done": {{armed(api.ArmFail, 3), lasting}, {armed(api.ArmFail, 2)}},
		"armed no more":                {{armed(api.ArmStop, 3), armed(api.ArmFail, -1)}, {}},
		"failed":                       {{faulty}, {}},
		"dead":                         {{dead}, {lasting, armed(api.ArmFail, 7), dead}},
		"dead where the same waits":    {{waiting(0, 'a'), dead}, {waiting(0, 'a'), dead}},
	}
	for what, ways := range alike {
		a, b := after(t, ways[0]...), after(t, ways[1]...)
		wantSame(t, what, a, b, true)
		wantSame(t, what+", itself", a, a, true)
	}
}

func TestSameOthers(t *testing.T) {
	unlike := map[string][2][]turn{
		"what waits, of nothing":               {{waiting(0, 'a')}, {}},
		"noughts that wait":                    {{waiting(0, 0)}, {}},
		"what lasts, of nothing":               {{waiting(0, 'a'), lasting}, {}},
		"what lasts":                           {{waiting(0, 'a'), lasting}, {waiting(0, 'b'), lasting}},
		"what lasts, elsewhere":                {{waiting(0, 'a'), lasting}, {waiting(1, 'a'), lasting}},
		"waits, or lasts":                      {{waiting(0, 'a')}, {waiting(0, 'a'), lasting}},
		"lasts, and waits again":               {{waiting(0, 'a'), lasting}, {waiting(0, 'a'), lasting, waiting(0, 'a')}},
		"what lasts below the same that waits": {{waiting(0, 'b')}, {waiting(0, 'a'), lasting, waiting(0, 'b')}},
		"what waits":                           {{waiting(0, 'a')}, {waiting(0, 'b')}},
		"what waits, elsewhere":                {{waiting(0, 'a')}, {waiting(1, 'a')}},
		"what waited ahead":                    {{waiting(0, 'a'), waiting(0, 'c')}, {waiting(0, 'b'), waiting(0, 'c')}},
		"what waits twice":                     {{waiting(0, 'a'), waiting(0, 'a')}, {waiting(0, 'a')}},
		"what waits in another order":          {{waiting(0, 'a'), waiting(1, 'b')}, {waiting(1, 'b'), waiting(0, 'a')}},
		"armed":                                {{armed(api.ArmFail, 5)}, {}},
		"armed to stop":                        {{armed(api.ArmStop, 0)}, {}},
		"armed otherwise":                      {{armed(api.ArmFail, 5)}, {armed(api.ArmStop, 5)}},
		"armed later":                          {{armed(api.ArmFail, 5)}, {armed(api.ArmFail, 6)}},
		"dead":                                 {{dead}, {}},
		"dead, or about to be":                 {{dead}, {armed(api.ArmStop, 0)}},
		"dead, or failed":                      {{dead}, {faulty}},
		"dead where something else waits":      {{waiting(0, 'a'), dead}, {dead}},
	}
	for what, ways := range unlike {
		wantSame(t, what, after(t, ways[0]...), after(t, ways[1]...), false)
	}
	wantSame(t, "room", fresh(t, 2), fresh(t, 3), false)
}

func TestSameOfNone(t *testing.T) {
	d := fresh(t, 2)
	none := []*disk.Disk{nil, {}}
	for _, a := range none {
		for _, b := range none {
			wantSame(t, "none and none", a, b, true)
		}
		wantSame(t, "none and one", a, d, false)
	}
}

// The methods of a disk that is not there.
func TestNoDisk(t *testing.T) {
	for name, d := range map[string]*disk.Disk{"nil": nil, "zero": {}} {
		for _, page := range []int{0, -1, 99999} {
			wantErr(t, name+": Write", d.Write(page, all('a')), api.ErrNil)
			wantErr(t, name+": Write of no bytes", d.Write(page, nil), api.ErrNil)
			if b, err := d.Read(page); b != nil || err != api.ErrNil {
				t.Errorf("%s: Read: %x %v", name, b, err)
			}
		}
		wantErr(t, name+": Flush", d.Flush(), api.ErrNil)
		wantErr(t, name+": Arm", d.Arm(api.ArmStop, 1), api.ErrNil)
		wantErr(t, name+": Arm that may not be", d.Arm(9, 1), api.ErrNil)
		if c, err := d.Crash(1, 2); c != nil || err != api.ErrNil {
			t.Errorf("%s: Crash: %v %v", name, c, err)
		}
		if d.Dead() || d.Pages() != 0 || d.Waits() != 0 || d.Steps() != 0 || d.Copy() != nil {
			t.Errorf("%s: %v %d %d %d %v", name, d.Dead(), d.Pages(), d.Waits(), d.Steps(), d.Copy())
		}
	}
}
