package meta_test

import (
	"bytes"
	"math"
	"slices"
	"testing"

	"pigeonry/api"
	"pigeonry/meta"
)

const maxTxid = 1 << 62

// What may be, and what may not, at the edges. Some of the great ones come round to what may be, if they are cut to 32 bits.
var (
	txids     = []int64{0, 1, 2, 3, 255, 256, 1<<32 - 1, 1 << 32, 1<<62 - 2, 1<<62 - 1, maxTxid}
	noTxids   = []int64{-1, -2, -3, maxTxid + 1, maxTxid + 2, 1<<63 - 2, math.MaxInt64, math.MinInt64, math.MinInt64 + 1}
	highs     = []int64{2, 3, 4, 9, 255, 256, 257, api.MaxPages - 1, api.MaxPages}
	noHighs   = []int64{0, 1, -1, -2, -9, api.MaxPages + 1, api.MaxPages + 2, 1 << 16, 1 << 31, 1<<32 - 1, 1 << 32, 1<<32 + 9, math.MaxInt64, math.MinInt64, math.MinInt64 + 9}
	noNumbers = []int64{-1, -2, 2, 3, 4, 256, 257, api.MaxPages - 1, api.MaxPages, 1 << 32, 1<<32 + 1, math.MaxInt64, math.MinInt64, math.MinInt64 + 1}
)

// edges are pages at the edges of what may be a Root or a Free of a meta of that High.
func edges(high int64) []int64 {
	return []int64{-1, 0, 1, 2, 3, high - 2, high - 1, high, high + 1, -2, -high, 1 - high, api.MaxPages - 1, api.MaxPages, 1 << 31, 1 << 32, 1<<32 + 2, 1<<32 - 1, math.MaxInt64, math.MinInt64, math.MinInt64 + 2}
}

// some is a meta that may be, whose Txid is even; odd is another one, whose Txid is odd.
func some() api.Meta { return api.Meta{Txid: 4, Root: 5, Free: 7, High: 9} }

func odd() api.Meta { return api.Meta{Txid: 3, Root: 8, Free: 0, High: 300} }

func of(txid int64) api.Meta { return api.Meta{Txid: txid, Root: 2, Free: 3, High: 10} }

// wantMay asks Check, Raw and Parse of a meta that may be.
func wantMay(t *testing.T, m api.Meta) {
	t.Helper()
	wantRaw(t, m, rawTold(m))
}

// wantRaw asks Check, Raw and Parse of a meta that has these bytes.
func wantRaw(t *testing.T, m api.Meta, want []byte) {
	t.Helper()
	if e := meta.Check(m); e != api.OK {
		t.Errorf("Check(%v): %v", m, e)
	}
	b, e := meta.Raw(m)
	if !bytes.Equal(b, want) || e != api.OK {
		t.Errorf("Raw(%v): %x %v, want %x", m, b, e, want)
	}
	at := m.Txid & 1
	wantParse(t, at, b, m)
	wantNoParse(t, 1-at, b, api.ErrMeta)
}

func wantMayNot(t *testing.T, m api.Meta) {
	t.Helper()
	if e := meta.Check(m); e != api.ErrArg {
		t.Errorf("Check(%v): %v, want %v", m, e, api.ErrArg)
	}
	if b, e := meta.Raw(m); b != nil || e != api.ErrArg {
		t.Errorf("Raw(%v): %x %v, want none, %v", m, b, e, api.ErrArg)
	}
}

func wantParse(t *testing.T, number int64, b []byte, want api.Meta) {
	t.Helper()
	if m, e := meta.Parse(number, b); m != want || e != api.OK {
		t.Errorf("Parse(%d, %.80x): %v %v, want %v", number, b, m, e, want)
	}
}

func wantNoParse(t *testing.T, number int64, b []byte, want api.Errno) {
	t.Helper()
	if m, e := meta.Parse(number, b); m != (api.Meta{}) || e != want {
		t.Errorf("Parse(%d, %.80x): %v %v, want none, %v", number, b, m, e, want)
	}
}

// wantNone asks all that read of bytes, PageSize of them, that are no meta's at either number.
func wantNone(t *testing.T, b []byte) {
	t.Helper()
	wantNoParse(t, 0, b, api.ErrMeta)
	wantNoParse(t, 1, b, api.ErrMeta)
	wantNoCounts(t, b, b)
}

func wantCounts(t *testing.T, a, b []byte, want api.Meta) {
	t.Helper()
	if m, e := meta.Counts(a, b); m != want || e != api.OK {
		t.Errorf("Counts(%.80x, %.80x): %v %v, want %v", a, b, m, e, want)
	}
}

func wantNoCounts(t *testing.T, a, b []byte) {
	t.Helper()
	if m, e := meta.Counts(a, b); m != (api.Meta{}) || e != api.ErrMeta {
		t.Errorf("Counts(%.80x, %.80x): %v %v, want none, %v", a, b, m, e, api.ErrMeta)
	}
}

func raw(t *testing.T, m api.Meta) []byte {
	t.Helper()
	b, e := meta.Raw(m)
	if e != api.OK || len(b) != api.PageSize {
		t.Fatalf("Raw(%v): %d bytes, %v", m, len(b), e)
	}
	return b
}

// P6.1: Check, Raw

func TestTxids(t *testing.T) {
	for _, m := range []api.Meta{{High: 2}, some(), odd(), {Root: 4095, Free: 4094, High: 4096}} {
		for _, txid := range txids {
			m.Txid = txid
			wantMay(t, m)
		}
		for _, txid := range noTxids {
			m.Txid = txid
			wantMayNot(t, m)
		}
	}
}

func TestHighs(t *testing.T) {
	for _, txid := range []int64{0, 1, 7, maxTxid} {
		for _, high := range highs {
			wantMay(t, api.Meta{Txid: txid, High: high})
			wantMay(t, api.Meta{Txid: txid, High: high, Root: min(2, (high-2)*2)})
		}
		for _, high := range noHighs {
			wantMayNot(t, api.Meta{Txid: txid, High: high})
			wantMayNot(t, api.Meta{Txid: txid, High: high, Root: 5, Free: 7})
		}
	}
}

// wantPages asks of each page at the edges as Root and as Free, each by itself, and as both.
func wantPages(t *testing.T, high int64, pages ...int64) {
	t.Helper()
	for _, n := range pages {
		want := wantMayNot
		if n == 0 || n >= 2 && n < high {
			want = wantMay
		}
		for _, txid := range []int64{6, 7} {
			want(t, api.Meta{Txid: txid, Root: n, High: high})
			want(t, api.Meta{Txid: txid, Free: n, High: high})
			want(t, api.Meta{Txid: txid, Root: n, Free: n, High: high})
			if high > 2 {
				want(t, api.Meta{Txid: txid, Root: n, Free: high - 1, High: high})
				want(t, api.Meta{Txid: txid, Root: 2, Free: n, High: high})
			}
		}
	}
}

func TestRootsAndFrees(t *testing.T) {
	for _, high := range highs {
		wantPages(t, high, edges(high)...)
	}
}

func TestEachRootAndFree(t *testing.T) {
	for high := int64(2); high < 14; high++ {
		for n := int64(-2); n < 16; n++ {
			wantPages(t, high, n)
		}
	}
	for n := int64(-1); n <= api.MaxPages; n++ {
		wantPages(t, api.MaxPages, n)
	}
}

func TestZeroMetaMayNotBe(t *testing.T) { wantMayNot(t, api.Meta{}) }

func TestManyThingsWrong(t *testing.T) {
	for _, n := range append(slices.Clone(noHighs), noTxids...) {
		if n != 0 {
			wantMayNot(t, api.Meta{Txid: min(n, -1), Root: n, Free: n, High: n})
		}
	}
}

func TestRawByteByByte(t *testing.T) {
	b := raw(t, api.Meta{Txid: 0x0102030405060709, Root: 0x0abc, Free: 0x0def, High: 0x0fed})
	want := []byte{1, 12, 1, 2, 3, 4, 5, 6, 7, 9, 0, 0, 0, 1, 0, 0, 0, 0, 0, 0, 0, 0, 0x0a, 0xbc, 0, 0, 0x0d, 0xef, 0, 0, 0x0f, 0xed}
	want = append(append(make([]byte, 4), want...), make([]byte, 220)...)
	if want = summed(want, 4); !bytes.Equal(b, want) {
		t.Errorf("%x, want %x", b, want)
	}
	for i, at := range []int{17, 27, 31, 35} {
		if b := raw(t, api.Meta{Txid: 2, Root: 2, Free: 3, High: 4}); b[at] != []byte{0, 2, 3, 4}[i] {
			t.Errorf("the byte %d: %x", at, b)
		}
	}
}

func TestRawKeepsApart(t *testing.T) {
	want := rawTold(some())
	b, other := raw(t, some()), raw(t, some())
	for i := range b {
		b[i] ^= 0xff
	}
	_ = append(b, "!!!!"...)
	if !bytes.Equal(other, want) || !bytes.Equal(raw(t, some()), want) {
		t.Error("an answer shares memory with another one")
	}
}

// P6.1: Where

func TestWhere(t *testing.T) {
	for _, c := range []struct{ txid, want int64 }{
		{0, 0}, {1, 1}, {2, 0}, {3, 1}, {7, 1}, {8, 0}, {1 << 32, 0}, {1<<32 + 1, 1}, {1<<62 - 1, 1}, {maxTxid, 0},
		{maxTxid + 1, 1}, {maxTxid + 2, 0}, {math.MaxInt64 - 1, 0}, {math.MaxInt64, 1}, // from 0 on, though no meta has them
		{-1, 0}, {-2, 0}, {-3, 0}, {-7, 0}, {-maxTxid - 1, 0}, {math.MinInt64, 0}, {math.MinInt64 + 1, 0},
	} {
		if got := meta.Where(c.txid); got != c.want {
			t.Errorf("Where(%d): %d, want %d", c.txid, got, c.want)
		}
	}
}

// P6.1: Parse

func TestExamples(t *testing.T) {
	wantNoParse(t, 0, raw(t, api.Meta{Txid: 3, Root: 5, High: 9}), api.ErrMeta)
	wantParse(t, 1, raw(t, api.Meta{Txid: 3, Root: 5, High: 9}), api.Meta{Txid: 3, Root: 5, High: 9})
	wantMayNot(t, api.Meta{High: 2, Root: 2})
}

// wantNoNumber asks of a number that no meta's page has, of bytes that are right and of such that are wrong.
func wantNoNumber(t *testing.T, number int64) {
	t.Helper()
	turned := raw(t, some())
	turned[9] ^= 1
	for _, b := range [][]byte{raw(t, some()), raw(t, odd()), turned, nil, {}, turned[:255], make([]byte, 256), make([]byte, 257), pageTold(max(0, number%4096), 1, 4, 0, bodyTold(5, 7, 9))} {
		wantNoParse(t, number, b, api.ErrArg)
	}
}

func TestParseAtNoNumber(t *testing.T) {
	for _, number := range noNumbers {
		wantNoNumber(t, number)
	}
}

// ErrArg is told ahead of ErrMeta.
func TestParseOfNoPageSize(t *testing.T) {
	for _, m := range []api.Meta{some(), odd()} {
		long := append(raw(t, m), raw(t, m)...)
		for n := range len(long) + 1 {
			if n == api.PageSize {
				continue
			}
			for number := range int64(2) {
				wantNoParse(t, number, long[:n], api.ErrArg)
				wantNoParse(t, number, make([]byte, n), api.ErrArg)
			}
		}
	}
	wantNoParse(t, 0, nil, api.ErrArg)
	wantNoParse(t, 1, make([]byte, 1<<16), api.ErrArg)
}

func TestOtherKinds(t *testing.T) {
	for number := range int64(2) {
		for kind := range int64(256) {
			b := pageTold(number, kind, 4+number, 0, bodyTold(5, 7, 9))
			if kind == int64(api.PageMeta) {
				wantParse(t, number, b, api.Meta{Txid: 4 + number, Root: 5, Free: 7, High: 9})
				continue
			}
			wantNone(t, b)
		}
	}
}

func TestNextInBytes(t *testing.T) {
	for number := range int64(2) {
		for _, next := range []int64{1, 2, 3, 5, 256, 4095, 4096, 1 << 16, 1<<32 - 1} {
			wantNone(t, pageTold(number, 1, 4+number, next, bodyTold(5, 7, 9)))
		}
	}
}

func TestBodyLengths(t *testing.T) {
	for number := range int64(2) {
		for _, body := range [][]byte{bodyTold(5, 7, 9), bodyTold(0, 0, 2), bodyTold(0, 0, 0x0900)} {
			body = append(body, make([]byte, 220)...)
			for size := range 233 {
				b := pageTold(number, 1, 4+number, 0, body[:size])
				if size != 12 {
					wantNone(t, b)
				}
			}
		}
		wantNone(t, pageTold(number, 1, 4+number, 0, append(bodyTold(5, 7, 9), 1)))
	}
}

// The last number is read as far as it goes by who does not look, and may be a High then.
func TestBodyCutInTheLastNumber(t *testing.T) {
	for number := range int64(2) {
		for _, body := range [][]byte{{0, 0, 0, 0, 0, 0, 0, 0, 0, 0, 9}, {0, 0, 0, 0, 0, 0, 0, 0, 9}, {0, 0, 0, 0, 0, 0, 0, 9}, {0, 0, 0, 9}, {9}} {
			wantNone(t, pageTold(number, 1, 4+number, 0, body))
		}
	}
}

// Pages that are a meta's in all but their number.
func TestNumberInBytes(t *testing.T) {
	body := bodyTold(5, 7, 9)
	for _, txid := range txids {
		m := api.Meta{Txid: txid, Root: 5, Free: 7, High: 9}
		wantParse(t, txid&1, pageTold(txid&1, 1, txid, 0, body), m)
		wantNoParse(t, 1-txid&1, pageTold(txid&1, 1, txid, 0, body), api.ErrMeta)
		wantNone(t, pageTold(1-txid&1, 1, txid, 0, body))
		for _, number := range []int64{2, 3, 4, 5, 256, 257, 4095, 4096, 1<<32 - 2, 1<<32 - 1} {
			wantNone(t, pageTold(number, 1, txid, 0, body))
		}
	}
}

// Bytes that tell a meta that may not be.
func TestMetaInBytesMayNotBe(t *testing.T) {
	for number := range int64(2) {
		for _, high := range []int64{0, 1, 4097, 4098, 1 << 16, 1<<16 + 9, 1 << 31, 1<<32 - 1} {
			wantNone(t, rawTold(api.Meta{Txid: 4 + number, High: high}))
		}
		for _, high := range highs {
			for _, n := range edges(high) {
				if n < 0 || n > 1<<32-1 {
					continue
				}
				for _, m := range []api.Meta{{Txid: 4 + number, Root: n, High: high}, {Txid: 4 + number, Free: n, High: high}} {
					if n == 0 || n >= 2 && n < high {
						wantParse(t, number, rawTold(m), m)
						continue
					}
					wantNone(t, rawTold(m))
				}
			}
		}
	}
	for _, txid := range noTxids {
		wantNone(t, rawTold(of(txid)))
	}
}

// Noughts that are none: between Next and Body, and behind the Body.
func TestNoughtsInBytes(t *testing.T) {
	for _, m := range []api.Meta{some(), odd()} {
		for at := 22; at < api.PageSize; at++ {
			if at < 24 || at >= 36 {
				wantNone(t, summed(rawTold(m), at, 1))
			}
		}
	}
}

func TestOneBitTurned(t *testing.T) {
	for _, m := range []api.Meta{some(), odd(), {High: 2}, {Txid: maxTxid, Root: 4095, Free: 4094, High: 4096}} {
		b := raw(t, m)
		for bit := range 8 * len(b) {
			b[bit/8] ^= 1 << (bit % 8)
			wantNone(t, b)
			b[bit/8] ^= 1 << (bit % 8)
		}
		wantParse(t, m.Txid&1, b, m)
	}
}

func TestNoMetaAtAll(t *testing.T) {
	wantNone(t, make([]byte, api.PageSize))
	wantNone(t, bytes.Repeat([]byte{0xff}, api.PageSize))
	wantNone(t, summed(make([]byte, api.PageSize), 4))
	wantNone(t, summed(bytes.Repeat([]byte{0xff}, api.PageSize), 4))
}

func TestParseOfRawIsTheMeta(t *testing.T) {
	for _, txid := range txids {
		for _, high := range highs {
			for _, root := range []int64{0, 2, high - 1} {
				for _, free := range []int64{0, 2, high - 1} {
					if m := (api.Meta{Txid: txid, Root: root, Free: free, High: high}); mayTold(m) {
						wantMay(t, m)
					}
				}
			}
		}
	}
}

// What is handed in is not changed, nor what stands behind it.
func TestReadersChangeNothing(t *testing.T) {
	room := append(raw(t, some()), "behind"...)
	other := append(raw(t, odd()), "behind"...)
	before, otherBefore := bytes.Clone(room), bytes.Clone(other)
	m, _ := meta.Parse(0, room[:256])
	n, _ := meta.Counts(room[:256], other[:256])
	if !bytes.Equal(room, before) || !bytes.Equal(other, otherBefore) {
		t.Error("the bytes, or the room behind them, were changed")
	}
	clear(room)
	clear(other)
	if m != some() || n != some() {
		t.Error("an answer shares memory with the bytes")
	}
	wantParse(t, 0, before[:256:256], some())
}

// P6.2: Counts

func TestCountsOfTwo(t *testing.T) {
	for _, c := range []struct{ even, odd int64 }{
		{0, 1}, {2, 1}, {2, 3}, {4, 3}, {0, 3}, {6, 1}, {256, 255}, {254, 255}, {256, 1}, {0, 257}, {1 << 32, 1<<32 - 1}, {1 << 32, 1}, {2, 1<<32 + 1},
		{maxTxid, 1<<62 - 1}, {maxTxid, 1}, {0, 1<<62 - 1}, {1<<62 - 2, 1<<62 - 1},
	} {
		a, b := of(c.even), of(c.odd)
		a.High, b.Root = 11, 4
		want := a
		if c.odd > c.even {
			want = b
		}
		wantCounts(t, rawTold(a), rawTold(b), want)
		wantNoCounts(t, rawTold(b), rawTold(a))
	}
}

// It hangs on the Txid alone which one counts.
func TestCountsByTxidAlone(t *testing.T) {
	least, most := api.Meta{High: 2}, api.Meta{Root: 4095, Free: 4095, High: 4096}
	for _, c := range [][2]api.Meta{{least, most}, {most, least}} {
		a, b := c[0], c[1]
		a.Txid, b.Txid = 8, 7
		wantCounts(t, rawTold(a), rawTold(b), a)
		b.Txid = 9
		wantCounts(t, rawTold(a), rawTold(b), b)
	}
}

// none are bytes that are no meta's, and such that are not PageSize.
func none(t *testing.T, m api.Meta) [][]byte {
	b := raw(t, m)
	turned, kind := bytes.Clone(b), summed(b, 4, byte(api.PageLeaf))
	turned[100] ^= 4
	return [][]byte{nil, {}, b[:1], b[:36], b[:255], append(bytes.Clone(b), 0), append(bytes.Clone(b), b...), turned, kind, make([]byte, 256),
		summed(b, 35, 1), summed(b, 21, 1), summed(b, 5, 11), summed(b, 5, 13), summed(b, 17, 1-b[17]), summed(b, 13, 1-b[13]%2)}
}

func TestCountsOfOneAlone(t *testing.T) {
	for _, txid := range []int64{0, 2, 8, maxTxid} {
		for _, b := range none(t, of(7)) {
			wantCounts(t, rawTold(of(txid)), b, of(txid))
		}
	}
	for _, txid := range []int64{1, 3, 9, maxTxid - 1} {
		for _, b := range none(t, of(8)) {
			wantCounts(t, b, rawTold(of(txid)), of(txid))
		}
	}
}

func TestCountsOfNone(t *testing.T) {
	for _, a := range none(t, of(8)) {
		for _, b := range none(t, of(7)) {
			wantNoCounts(t, a, b)
			wantNoCounts(t, b, a)
		}
	}
}

func TestCountsOfBytesAtTheOthersNumber(t *testing.T) {
	even, next, odd, more := rawTold(of(4)), rawTold(of(6)), rawTold(of(3)), rawTold(of(9))
	wantNoCounts(t, odd, even)
	wantNoCounts(t, nil, even)
	wantNoCounts(t, odd, nil)
	wantCounts(t, even, next, of(4))
	wantCounts(t, even, even, of(4))
	wantCounts(t, more, odd, of(3))
	wantCounts(t, odd, odd, of(3))
}

// P6.2: First

func TestFirst(t *testing.T) {
	f := meta.First()
	for number := range int64(2) {
		want := pageTold(number, 1, number, 0, []byte{0, 0, 0, 0, 0, 0, 0, 0, 0, 0, 0, 2})
		if !bytes.Equal(f[number], want) {
			t.Errorf("at %d: %x, want %x", number, f[number], want)
		}
		wantParse(t, number, f[number], api.Meta{Txid: number, High: 2})
	}
	wantCounts(t, f[0], f[1], api.Meta{Txid: 1, High: 2})
	wantNoCounts(t, f[1], f[0])
	wantCounts(t, f[0], nil, api.Meta{High: 2})
}

func TestFirstKeepsApart(t *testing.T) {
	f, other := meta.First(), meta.First()
	want := [2][]byte{bytes.Clone(f[0]), bytes.Clone(f[1])}
	clear(f[0])
	if _ = append(f[0], "!!!!"...); !bytes.Equal(f[1], want[1]) {
		t.Error("both share memory")
	}
	clear(f[1])
	f[0], f[1] = nil, nil
	third := meta.First()
	for i := range want {
		if !bytes.Equal(other[i], want[i]) || !bytes.Equal(third[i], want[i]) {
			t.Error("an answer shares memory with another one")
		}
	}
}

// P6.3

// wantBetween turns bits of the newest page, asks whether the one between counts, and turns them back.
func wantBetween(t *testing.T, newest, between []byte, want api.Meta, bits ...int) {
	t.Helper()
	for _, bit := range bits {
		newest[bit/8] ^= 1 << (bit % 8)
	}
	if want.Txid%2 == 1 {
		wantCounts(t, newest, between, want)
	} else {
		wantCounts(t, between, newest, want)
	}
	for _, bit := range bits {
		newest[bit/8] ^= 1 << (bit % 8)
	}
}

// each are Txids of the page that is written over; behind it come that between, and the next but one.
var each = []int64{0, 1, 6, 7, 255, 1<<32 - 2, 1<<62 - 2}

func TestTheOneBetweenCounts(t *testing.T) {
	for _, txid := range each {
		disk := [2][]byte{}
		disk[txid&1], disk[1-txid&1] = raw(t, of(txid)), raw(t, of(txid+1))
		wantCounts(t, disk[0], disk[1], of(txid+1))
		newest := api.Meta{Txid: txid + 2, Root: 9, Free: 8, High: 20}
		disk[txid&1] = raw(t, newest)
		wantCounts(t, disk[0], disk[1], newest)
		wantBetween(t, disk[txid&1], disk[1-txid&1], of(txid+1), 8*35)
	}
}

// One bit, wherever it is; two in the head and in the Body, and a third one beside these.
func TestTurnedBits(t *testing.T) {
	for _, txid := range each[:4] {
		newest, between := raw(t, of(txid+2)), raw(t, of(txid+1))
		for i := range 8 * len(newest) {
			wantBetween(t, newest, between, of(txid+1), i)
		}
		for i := range 8 * 36 {
			for j := range i {
				wantBetween(t, newest, between, of(txid+1), i, j)
				wantBetween(t, newest, between, of(txid+1), i, j, i+1+j)
			}
		}
		if t.Failed() {
			t.Fatalf("the Txid %d", txid)
		}
	}
}

// Two or three bits, wherever they are.
func TestTurnedBitsAnywhere(t *testing.T) {
	for _, txid := range each {
		newest, between := raw(t, of(txid+2)), raw(t, of(txid+1))
		d := dice(txid)
		for range 10000 {
			i := d.roll(8 * len(newest))
			j := (i + 1 + d.roll(8*len(newest)-1)) % (8 * len(newest))
			wantBetween(t, newest, between, of(txid+1), i, j)
			if k := d.roll(8 * len(newest)); k != i && k != j {
				wantBetween(t, newest, between, of(txid+1), i, j, k)
			}
		}
		if t.Failed() {
			t.Fatalf("the Txid %d", txid)
		}
	}
}
