package framer_test

import (
	"bytes"
	"math/bits"
	"slices"
	"testing"

	"pigeonry/api"
	"pigeonry/framer"
	"pigeonry/packet"
)

// told is a framer as the chapter tells it: bytes, of which it is asked each time anew what is next.
type told struct {
	most   int
	waits  []byte
	spoilt bool
}

// toldSize tells how many bytes the packet has with which bytes begin, by digits to the base 128, lowest ahead: 0, if its length is not all there yet, -1, if that is none.
func toldSize(b []byte) int {
	sum, each := 0, 1
	for i := 1; i <= 4; i++ {
		if i >= len(b) {
			return 0
		}
		sum, each = sum+int(b[i])%128*each, each*128
		if b[i] == 0 && i > 1 {
			return -1
		}
		if b[i] < 128 {
			return 1 + i + sum
		}
	}
	return -1
}

func (f *told) put(b []byte) api.Errno {
	if f.spoilt {
		return api.ErrSpoilt
	}
	f.waits = slices.Concat(f.waits, b)
	return api.OK
}

func (f *told) next() (api.Pack, bool, api.Errno) {
	if f.spoilt {
		return api.Pack{}, false, api.ErrSpoilt
	}
	size := toldSize(f.waits)
	if size >= 0 && size <= f.most {
		if size == 0 || size > len(f.waits) {
			return api.Pack{}, false, api.OK
		}
		if p, e := packet.Parse(f.waits[:size]); e == api.OK {
			f.waits = bytes.Clone(f.waits[size:])
			return p, true, api.OK
		}
	}
	f.waits, f.spoilt = nil, true
	return api.Pack{}, false, api.ErrSpoilt
}

func (f *told) all() (all []api.Pack, e api.Errno) {
	p, is, e := f.next()
	for ; is; p, is, e = f.next() {
		all = append(all, p)
	}
	return all, e
}

func (f *told) copy() *told { return &told{f.most, bytes.Clone(f.waits), f.spoilt} }

// pair is a framer, and what it is told to be.
type pair struct {
	f *framer.Framer
	w *told
}

func pairOf(t *testing.T, most int) pair {
	t.Helper()
	return pair{made(t, most), &told{most: most}}
}

func (p pair) wantState(t *testing.T) {
	t.Helper()
	wantState(t, p.f, len(p.w.waits), p.w.spoilt)
}

func (p pair) put(t *testing.T, b []byte) {
	t.Helper()
	if e, want := p.f.Put(b), p.w.put(b); e != want {
		t.Fatalf("Put(%x): %v, want %v", short(b), e, want)
	}
	p.wantState(t)
}

func (p pair) next(t *testing.T) bool {
	t.Helper()
	got, is, e := p.f.Next()
	want, wantIs, wantErr := p.w.next()
	if !packet.Same(got, want) || is != wantIs || e != wantErr {
		t.Fatalf("Next: %v %t %v, want %v %t %v", got, is, e, want, wantIs, wantErr)
	}
	p.wantState(t)
	return is
}

func (p pair) all(t *testing.T) int {
	t.Helper()
	want, wantErr := p.w.all()
	wantAll(t, p.f, want, wantErr)
	p.wantState(t)
	return len(want)
}

func (p pair) copy(t *testing.T) pair {
	t.Helper()
	c := pair{copied(t, p.f), p.w.copy()}
	c.wantState(t)
	return c
}

// dice tells numbers that are the same each time.
type dice uint32

func (d *dice) roll(n int) int {
	*d = *d*1664525 + 1013904223
	return int(uint64(bits.RotateLeft32(uint32(*d), 16)) % uint64(n))
}

// pick tells one of some things.
func pick[T any](d *dice, things ...T) T { return things[d.roll(len(things))] }

func (d *dice) bytes(n int) []byte {
	b := make([]byte, n)
	for i := range b {
		b[i] = byte(d.roll(256))
	}
	return b
}

// They are made once, since they are picked from often.
var someKinds, someWrongs = kinds(), wrongs()

// packet tells a packet's bytes, of at most so many.
func (d *dice) packet(most int) []byte {
	for {
		k := pick(d, someKinds...)
		if d.roll(3) == 0 {
			p := api.Pack{Kind: api.PackPublish, Topic: "a", Qos: d.roll(3), Body: string(d.bytes(d.roll(pick(d, 5, 20, 200))))}
			if p.Qos > 0 {
				p.ID = int64(1 + d.roll(65535))
			}
			k.b, _ = packet.Raw(p)
		}
		if len(k.b) <= most {
			return k.b
		}
	}
}

// stream tells bytes that come: packets, in some of which something is wrong, and perhaps a piece behind.
func (d *dice) stream(most, seldom int) (b []byte) {
	for range d.roll(12) {
		one := d.packet(most)
		if d.roll(seldom) == 0 {
			switch d.roll(4) {
			case 0:
				one = pick(d, someWrongs...)
			case 1:
				one = d.packet(api.MaxText)
			case 2:
				one = d.bytes(d.roll(8))
			default:
				one = bytes.Clone(one)
				one[d.roll(len(one))] ^= 1 << d.roll(8)
			}
		}
		b = append(b, one...)
	}
	if d.roll(2) == 0 {
		one := d.packet(most)
		b = append(b, one[:d.roll(len(one))]...)
	}
	return b
}

// pieces tells the same bytes, cut by chance, also into pieces without bytes.
func (d *dice) pieces(b []byte) (all [][]byte) {
	size := pick(d, 1, 2, 3, 10, 100, 1000)
	for len(b) > 0 {
		n := min(len(b), d.roll(size+1))
		all, b = append(all, b[:n]), b[n:]
	}
	return all
}

func (d *dice) most() int { return pick(d, 2, 3, 4, 5, 14, 20, 34, 35, 129, 200, 4096, api.MaxText) }

// Long lives, in which each call answers as it is told, and copies go on apart.
func TestLivesAsTold(t *testing.T) {
	packets, spoilt := 0, 0
	for seed := range 3000 {
		d := dice(seed)
		most := d.most()
		lives := []pair{pairOf(t, most)}
		left := [][][]byte{d.pieces(d.stream(most, 20))}
		for range 60 {
			i := d.roll(len(lives))
			p := lives[i]
			switch d.roll(8) {
			case 0, 1, 2:
				if len(left[i]) == 0 {
					left[i] = d.pieces(d.stream(most, 20))
				} else {
					p.put(t, left[i][0])
					left[i] = left[i][1:]
				}
			case 3, 4, 5:
				if p.next(t) {
					packets++
				}
			case 6:
				packets += p.all(t)
			default:
				if len(lives) < 3 {
					lives, left = append(lives, p.copy(t)), append(left, d.pieces(d.stream(most, 5)))
				}
			}
			for _, p := range lives {
				p.wantState(t)
			}
			if t.Failed() {
				t.Fatalf("seed %d", seed)
			}
		}
		for _, p := range lives {
			packets += p.all(t)
			if p.w.spoilt {
				spoilt++
			}
		}
	}
	if packets < 20000 || spoilt < 500 || spoilt > 6000 {
		t.Errorf("%d packets, %d spoilt", packets, spoilt)
	}
}

// Any bytes at all, for the most part wrong.
func TestAnyBytesAsTold(t *testing.T) {
	for seed := range 30000 {
		d := dice(seed)
		p := pairOf(t, d.most())
		b := d.bytes(d.roll(30))
		for i := range b {
			if d.roll(3) > 0 {
				b[i] = pick[byte](&d, 0xc0, 0xd0, 0xe0, 0x30, 0x40, 0, 1, 2, 3, 0x80, 'a')
			}
		}
		for _, piece := range d.pieces(b) {
			p.put(t, piece)
			if d.roll(2) == 0 {
				p.next(t)
			}
		}
		p.all(t)
		p.all(t)
	}
}

// All bytes of up to six of some that count, each of which is asked what packet they begin with by trying how many bytes it may have.
func TestShortBytesByTrial(t *testing.T) {
	digits := []byte{0xc0, 0x40, 0x00, 0x01, 0x02, 0x80}
	var walk func(b []byte)
	walk = func(b []byte) {
		for _, most := range []int{2, 4, 20} {
			wantTrial(t, most, b)
		}
		if len(b) < 6 && !t.Failed() {
			for _, one := range digits {
				walk(append(bytes.Clone(b), one))
			}
		}
	}
	walk(nil)
}

// wantTrial wants that the packets of bytes are those that are found by trial, and that behind the last one either not all bytes of a packet are there, or it is spoilt.
func wantTrial(t *testing.T, most int, b []byte) {
	t.Helper()
	var want []api.Pack
	left := b
try:
	for n := 1; n <= min(most, len(left)); n++ {
		if p, e := packet.Parse(left[:n]); e == api.OK {
			want, left, n = append(want, p), left[n:], 0
			continue try
		}
	}
	size := toldSize(left)
	f := holding(t, most, b)
	if size < 0 || size > most || size > 0 && size <= len(left) {
		wantAll(t, f, want, api.ErrSpoilt)
		wantState(t, f, 0, true)
	} else {
		wantAll(t, f, want, api.OK)
		wantState(t, f, len(left), false)
	}
}

// P17.3: it does not matter in which pieces bytes come.

// between are ways of taking what is next behind each piece but the last one.
func between(d *dice) map[string]func(f *framer.Framer) ([]api.Pack, api.Errno) {
	ways := takings()
	ways["nothing"] = func(*framer.Framer) ([]api.Pack, api.Errno) { return nil, api.OK }
	ways["one Next"] = func(f *framer.Framer) ([]api.Pack, api.Errno) {
		p, is, e := f.Next()
		if !is {
			return nil, e
		}
		return []api.Pack{p}, e
	}
	chosen := []func(f *framer.Framer) ([]api.Pack, api.Errno){ways["All"], ways["Next"], ways["nothing"], ways["one Next"]}
	ways["by chance"] = func(f *framer.Framer) ([]api.Pack, api.Errno) { return pick(d, chosen...)(f) }
	return ways
}

// wantPieces wants that pieces are the same packets, and spoilt or not, in whichever way they are taken.
func wantPieces(t *testing.T, most int, pieces [][]byte, want []api.Pack, left int, spoilt bool) {
	t.Helper()
	var d dice
	for way, take := range between(&d) {
		for last, rest := range takings() {
			d = dice(len(pieces)) // the same each time, in whichever order the ways stand
			f := made(t, most)
			var all []api.Pack
			for _, piece := range pieces {
				if e := f.Put(piece); e != api.OK && !f.Spoilt() {
					t.Fatalf("Put(%x): %v", short(piece), e)
				}
				some, _ := take(f)
				all = append(all, some...)
			}
			some, e := rest(f)
			all = append(all, some...)
			if !slices.EqualFunc(all, want, packet.Same) || e == api.ErrSpoilt != spoilt || f.Spoilt() != spoilt || f.Left() != left {
				t.Fatalf("%x in pieces, Most %d, %s between, %s behind: %v %v, Left %d, Spoilt %t, want %v, %d, %t", pieces, most, way, last, all, e, f.Left(), f.Spoilt(), want, left, spoilt)
			}
		}
	}
}

// course is bytes that come, and what they are.
type course struct {
	b      []byte
	want   []api.Pack
	left   int
	spoilt bool
}

// courses tells bytes that are right, and such as are wrong as the first, in the middle and as the last, for a Most of 40.
func courses() []course {
	var all []course
	few := slices.DeleteFunc(kinds(), func(k known) bool { return len(k.b) > 40 })
	packs, b := line(few...)
	all = append(all, course{b, packs, 0, false}, course{joined(b, b[:7]), packs, 7, false}, course{joined(b, []byte{0x30, 0x80}), packs, 2, false})
	ends := append(wrongs(), bytesOf("30 27"), bytesOf("30 8001"), bytesOf("30 ffffff7f"), bytesOf("30 28 0001"))
	for i, wrong := range ends {
		one := few[i%len(few)]
		all = append(all,
			course{joined(wrong, one.b), nil, 0, true},
			course{joined(one.b, wrong, one.b), []api.Pack{one.p}, 0, true},
			course{joined(puback.b, one.b, wrong), []api.Pack{puback.p, one.p}, 0, true},
		)
	}
	return all
}

func TestPiecesOfOneByte(t *testing.T) {
	for _, c := range courses() {
		var pieces [][]byte
		for i := range c.b {
			pieces = append(pieces, c.b[i:i+1])
		}
		wantPieces(t, 40, [][]byte{c.b}, c.want, c.left, c.spoilt)
		wantPieces(t, 40, pieces, c.want, c.left, c.spoilt)
	}
}

func TestPiecesCutAtEachPlace(t *testing.T) {
	for _, c := range courses() {
		for cut := range len(c.b) + 1 {
			wantPieces(t, 40, [][]byte{c.b[:cut], c.b[cut:]}, c.want, c.left, c.spoilt)
			wantPieces(t, 40, [][]byte{c.b[:cut/2], c.b[cut/2 : cut], nil, c.b[cut:]}, c.want, c.left, c.spoilt)
		}
	}
}

// All ways to cut a few bytes.
func TestAllPieces(t *testing.T) {
	for _, c := range []course{
		{joined(pingreq.b, puback.b, disconnect.b), []api.Pack{pingreq.p, puback.p, disconnect.p}, 0, false},
		{joined(puback.b, pingreq.b, puback.b[:3]), []api.Pack{puback.p, pingreq.p}, 3, false},
		{joined(pingreq.b, puback.b, bytesOf("c0 8000")), []api.Pack{pingreq.p, puback.p}, 0, true},
		{joined(puback.b, bytesOf("c0 01 00"), pingreq.b), []api.Pack{puback.p}, 0, true},
		{joined(puback.b, bytesOf("30 03"), pingreq.b), []api.Pack{puback.p}, 0, true},
		{joined(bytesOf("40 8080 8080"), puback.b), nil, 0, true},
	} {
		for cuts := range 1 << (len(c.b) - 1) {
			var pieces [][]byte
			from := 0
			for i := 1; i <= len(c.b); i++ {
				if i == len(c.b) || cuts>>(i-1)&1 == 1 {
					pieces, from = append(pieces, c.b[from:i]), i
				}
			}
			wantPieces(t, 4, pieces, c.want, c.left, c.spoilt)
		}
	}
}

func TestPiecesByChance(t *testing.T) {
	for seed := range 3000 {
		d := dice(seed)
		most := d.most()
		b := d.stream(most, 30)
		whole := &told{most: most}
		whole.put(b)
		want, _ := whole.all()
		wantPieces(t, most, d.pieces(b), want, len(whole.waits), whole.spoilt)
	}
}

// Many bytes that come one by one, and are taken one packet by one, while many wait.
func TestManyBytesOneByOne(t *testing.T) {
	packs, b := line(kinds()...)
	f := made(t, 4096)
	for range 30 {
		for i := range b {
			wantPut(t, f, b[i:i+1])
		}
	}
	left := 30 * len(b)
	for range 30 {
		for _, k := range kinds() {
			left -= len(k.b)
			wantNext(t, f, k.p, left)
		}
		for i := range b {
			wantPut(t, f, b[i:i+1])
		}
		left += len(b)
	}
	for range 30 {
		for _, k := range kinds() {
			left -= len(k.b)
			wantNext(t, f, k.p, left)
		}
	}
	wantWaits(t, f, 0)
	wantPut(t, f, b)
	wantAll(t, f, packs, api.OK)
}
