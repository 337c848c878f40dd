package page_test

import (
	"bytes"
	"fmt"
	"math"
	"slices"
	"testing"

	"pigeonry/api"
	"pigeonry/page"
)

const maxTxid = 1 << 62

// What may be, and what may not, at the edges. Some of the great ones come round to what may be, if they are cut to 32 or to 8 bits.
var (
	kinds     = []api.PageKind{api.PageMeta, api.PageLeaf, api.PageBranch, api.PageChain, api.PageFree}
	noKinds   = []api.PageKind{api.PageNone, api.PageFree + 1, 7, 255, 256, 257, 1<<32 + 1, -1, -2, -255, math.MaxInt, math.MinInt, math.MinInt + 1}
	txids     = []int64{0, 1, 255, 256, 1 << 32, 1<<62 - 1, maxTxid}
	noTxids   = []int64{-1, -2, maxTxid + 1, maxTxid + 2, math.MaxInt64, math.MinInt64, math.MinInt64 + 1}
	numbers   = []int64{0, 1, 2, 255, 256, 4094, api.MaxPages - 1}
	noNumbers = []int64{-1, -2, -api.MaxPages, api.MaxPages, api.MaxPages + 1, 1 << 16, 1 << 32, 1<<32 + 1, math.MaxInt64, math.MinInt64}
	rooms     = []int{0, 1, 2, 100, 231, api.MaxRoom}
	noRooms   = []int{api.MaxRoom + 1, 234, 255, 256, 257, 256 + api.MaxRoom, 1 << 16}
)

// some tells n bytes, none of which is 0.
func some(n int) []byte {
	b := make([]byte, n)
	for i := range b {
		b[i] = byte(i%255 + 1)
	}
	return b
}

func leaf(body []byte) api.Page { return api.Page{Kind: api.PageLeaf, Txid: 7, Next: 9, Body: body} }

func wantErr(t *testing.T, what string, got, want api.Errno) {
	t.Helper()
	if got != want {
		t.Errorf("%s: %v, want %v", what, got, want)
	}
}

// alike tells whether two pages are the same, without asking the package that.
func alike(a, b api.Page) bool {
	return a.Kind == b.Kind && a.Txid == b.Txid && a.Next == b.Next && string(a.Body) == string(b.Body)
}

func raw(t *testing.T, number int64, p api.Page) []byte {
	t.Helper()
	b, err := page.Raw(number, p)
	if err != api.OK || len(b) != api.PageSize {
		t.Fatalf("Raw(%d, %.80v): %d bytes, %v", number, p, len(b), err)
	}
	return b
}

func wantNoRaw(t *testing.T, number int64, p api.Page) {
	t.Helper()
	if b, err := page.Raw(number, p); len(b) != 0 || err != api.ErrArg {
		t.Errorf("Raw(%d, %.80v): %d bytes, %v; want none, %v", number, p, len(b), err, api.ErrArg)
	}
}

func wantParse(t *testing.T, number int64, b []byte, want api.Page) {
	t.Helper()
	if p, err := page.Parse(number, b); err != api.OK || !alike(p, want) {
		t.Errorf("Parse(%d, %.80x): %.80v %v, want %.80v", number, b, p, err, want)
	}
}

func wantLook(t *testing.T, b []byte, number int64, want api.Page) {
	t.Helper()
	if n, p, err := page.Look(b); n != number || err != api.OK || !alike(p, want) {
		t.Errorf("Look(%.80x): %d %.80v %v, want %d %.80v", b, n, p, err, number, want)
	}
}

func wantNoParse(t *testing.T, number int64, b []byte, want api.Errno) {
	t.Helper()
	p, err := page.Parse(number, b)
	if err != want {
		t.Errorf("Parse(%d, %.80x): %v, want %v", number, b, err, want)
	}
	if !alike(p, api.Page{}) || p.Body != nil {
		t.Errorf("Parse(%d, %.80x): %.80v beside %v", number, b, p, err)
	}
}

func wantNoLook(t *testing.T, b []byte, want api.Errno) {
	t.Helper()
	n, p, err := page.Look(b)
	if err != want {
		t.Errorf("Look(%.80x): %v, want %v", b, err, want)
	}
	if n != 0 || !alike(p, api.Page{}) || p.Body != nil {
		t.Errorf("Look(%.80x): %d %.80v beside %v", b, n, p, err)
	}
}

// wantNone asks both ways of bytes that are none of a page at that number, which may be.
func wantNone(t *testing.T, number int64, b []byte, want api.Errno) {
	t.Helper()
	wantNoParse(t, number, b, want)
	wantNoLook(t, b, want)
}

// P4.1: Check

func TestCheckWhatMayBe(t *testing.T) {
	for _, kind := range kinds {
		for _, txid := range txids {
			for _, next := range numbers {
				for _, room := range rooms {
					p := api.Page{Kind: kind, Txid: txid, Next: next, Body: some(room)}
					wantErr(t, fmt.Sprintf("Check(%.80v)", p), page.Check(p), api.OK)
				}
			}
		}
	}
	wantErr(t, "Check of a nil Body", page.Check(leaf(nil)), api.OK)
	wantErr(t, "Check of spare room", page.Check(leaf(make([]byte, 3, 1000))), api.OK)
}

// wrong tells pages that may not be for one thing each.
func wrong() []api.Page {
	var l []api.Page
	for _, kind := range noKinds {
		l = append(l, api.Page{Kind: kind}, api.Page{Kind: kind, Txid: 7, Next: 9, Body: some(3)})
	}
	for _, txid := range noTxids {
		l = append(l, api.Page{Kind: api.PageLeaf, Txid: txid}, api.Page{Kind: api.PageMeta, Txid: txid, Next: 9, Body: some(3)})
	}
	for _, next := range noNumbers {
		l = append(l, api.Page{Kind: api.PageLeaf, Next: next}, api.Page{Kind: api.PageFree, Txid: 7, Next: next, Body: some(3)})
	}
	for _, room := range noRooms {
		l = append(l, leaf(some(room)), api.Page{Kind: api.PageChain, Body: make([]byte, room)})
	}
	return l
}

func TestCheckWhatMayNotBe(t *testing.T) {
	for _, p := range append(wrong(), api.Page{}) {
		wantErr(t, fmt.Sprintf("Check(%.80v)", p), page.Check(p), api.ErrArg)
	}
}

// P4.1: Raw

func TestRawByteByByte(t *testing.T) {
	b := raw(t, 0xabc, api.Page{Kind: api.PageBranch, Txid: 0x0102030405060708, Next: 0xdef, Body: []byte{0, 5, 0, 6}})
	want := []byte{3, 4, 1, 2, 3, 4, 5, 6, 7, 8, 0, 0, 0xa, 0xbc, 0, 0, 0xd, 0xef, 0, 0, 0, 5, 0, 6}
	want = append(want, make([]byte, api.MaxRoom-4)...)
	if !bytes.Equal(b[4:], want) {
		t.Errorf("behind the sum: %x, want %x", b[4:], want)
	}
	if !bytes.Equal(b[:4], sumTold(want)) {
		t.Errorf("the sum: %x, want %x", b[:4], sumTold(want))
	}
}

func TestRawExample(t *testing.T) {
	b := raw(t, 3, api.Page{Kind: api.PageLeaf, Txid: 7})
	if b[4] != 2 || b[5] != 0 || b[13] != 7 || b[17] != 3 {
		t.Errorf("%x", b)
	}
	wantNoRaw(t, 4096, api.Page{Kind: api.PageLeaf, Txid: 7})
	wantNoParse(t, 4, b, api.ErrPage)
	wantParse(t, 3, b, api.Page{Kind: api.PageLeaf, Txid: 7})
	b[100] ^= 8
	wantNoParse(t, 3, b, api.ErrSum)
}

// P4.3 at the edges, too.
func TestRawAtEachEdge(t *testing.T) {
	for _, number := range numbers {
		for _, kind := range kinds {
			for _, txid := range txids {
				for _, next := range numbers {
					for _, room := range rooms {
						p := api.Page{Kind: kind, Txid: txid, Next: next, Body: some(room)}
						b := raw(t, number, p)
						if !bytes.Equal(b, rawTold(number, p)) {
							t.Fatalf("Raw(%d, %v): %x", number, p, b)
						}
						wantParse(t, number, b, p)
						wantLook(t, b, number, p)
					}
				}
			}
		}
	}
}

func TestRawOfEachBodyLength(t *testing.T) {
	for room := range api.MaxRoom + 1 {
		for _, body := range [][]byte{some(room), make([]byte, room)} {
			p := leaf(body)
			b := raw(t, 5, p)
			if !bytes.Equal(b, rawTold(5, p)) {
				t.Errorf("Raw of a Body of %d bytes: %x", room, b)
			}
			wantParse(t, 5, b, p)
			wantLook(t, b, 5, p)
		}
	}
}

func TestRawOfEachNumber(t *testing.T) {
	for number := range int64(api.MaxPages) {
		p := api.Page{Kind: api.PageFree, Txid: 1, Next: api.MaxPages - 1 - number}
		b := raw(t, number, p)
		wantParse(t, number, b, p)
		wantLook(t, b, number, p)
		wantNoParse(t, (number+1)%api.MaxPages, b, api.ErrPage)
	}
}

func TestRawOfNilAndEmpty(t *testing.T) {
	want := raw(t, 5, leaf(nil))
	if !bytes.Equal(raw(t, 5, leaf([]byte{})), want) || !bytes.Equal(raw(t, 5, leaf(some(9)[:0])), want) {
		t.Error("nil and empty Bodies have other bytes")
	}
}

func TestRawOfWhatMayNotBe(t *testing.T) {
	for _, p := range append(wrong(), api.Page{}) {
		for _, number := range append(noNumbers, 0, 3, api.MaxPages-1) {
			wantNoRaw(t, number, p)
		}
	}
	for _, number := range noNumbers {
		wantNoRaw(t, number, leaf(nil))
		wantNoRaw(t, number, leaf(some(api.MaxRoom)))
	}
}

func TestRawKeepsApart(t *testing.T) {
	room := some(300)
	p := leaf(room[:40])
	b, other := raw(t, 5, p), raw(t, 5, p)
	if !bytes.Equal(room, some(300)) {
		t.Error("the Body, or the room behind it, was changed")
	}
	want := bytes.Clone(b)
	for i := range b {
		b[i] ^= 0xff
	}
	_ = append(b, "!!!!"...)
	if !bytes.Equal(other, want) || !bytes.Equal(room, some(300)) {
		t.Error("an answer shares memory")
	}
	clear(room)
	if !bytes.Equal(other, want) {
		t.Error("an answer shares memory with the Body")
	}
}

// P4.1: Parse, Look

func TestNoPageSize(t *testing.T) {
	b := raw(t, 3, leaf(some(api.MaxRoom)))
	long := append(bytes.Clone(b), b...)
	for n := range len(long) + 1 {
		if n != api.PageSize {
			wantNone(t, 3, long[:n], api.ErrArg)
		}
	}
	wantNone(t, 3, nil, api.ErrArg)
	wantNone(t, 3, make([]byte, 1<<16), api.ErrArg)
	wantNone(t, 3, long[1:257][:255], api.ErrArg)
}

func TestParseAtNoNumber(t *testing.T) {
	turned := raw(t, 3, leaf(nil))
	turned[0] ^= 1
	for _, number := range noNumbers {
		for _, b := range [][]byte{raw(t, 0, leaf(nil)), raw(t, 3, leaf(nil)), turned, nil, make([]byte, 255), make([]byte, 256), summed(raw(t, 3, leaf(nil)), 4, 9)} {
			wantNoParse(t, number, b, api.ErrArg)
		}
	}
}

func TestParseAtAnotherNumber(t *testing.T) {
	for _, is := range numbers {
		b := raw(t, is, leaf(some(3)))
		for _, asked := range numbers {
			if asked == is {
				wantParse(t, asked, b, leaf(some(3)))
				continue
			}
			wantNoParse(t, asked, b, api.ErrPage)
		}
		b[255] ^= 1
		for _, asked := range numbers {
			wantNoParse(t, asked, b, api.ErrSum)
		}
	}
}

// The sum is another one, whatever else is wrong.
func TestAnotherSum(t *testing.T) {
	b := raw(t, 3, leaf(some(3)))
	for at := range 4 {
		for turn := 1; turn < 256; turn++ {
			c := bytes.Clone(b)
			c[at] ^= byte(turn)
			wantNone(t, 3, c, api.ErrSum)
			wantNoParse(t, 4, c, api.ErrSum)
		}
	}
	for at := 4; at < api.PageSize; at++ {
		for _, turn := range []byte{1, 0x80, 0xff} {
			c := bytes.Clone(b)
			c[at] ^= turn
			wantNone(t, 3, c, api.ErrSum)
		}
	}
	wantNone(t, 0, make([]byte, api.PageSize), api.ErrSum)
	wantNone(t, 3, bytes.Repeat([]byte{0xff}, api.PageSize), api.ErrSum)
	wrongKind := summed(b, 4, 0)
	wrongKind[0] ^= 1
	wantNone(t, 3, wrongKind, api.ErrSum)
}

func TestNoKindInBytes(t *testing.T) {
	b := raw(t, 3, leaf(some(3)))
	for kind := range 256 {
		c := summed(b, 4, byte(kind))
		if kind >= 1 && kind <= 5 {
			p := leaf(some(3))
			p.Kind = api.PageKind(kind)
			wantParse(t, 3, c, p)
			wantLook(t, c, 3, p)
			continue
		}
		wantNone(t, 3, c, api.ErrPage)
	}
}

func TestLengthInBytes(t *testing.T) {
	full, empty := raw(t, 3, leaf(some(api.MaxRoom))), raw(t, 3, leaf(nil))
	for size := range 256 {
		f, e := summed(full, 5, byte(size)), summed(empty, 5, byte(size))
		if size > api.MaxRoom {
			wantNone(t, 3, f, api.ErrPage)
			wantNone(t, 3, e, api.ErrPage)
			continue
		}
		wantParse(t, 3, e, leaf(make([]byte, size)))
		wantLook(t, e, 3, leaf(make([]byte, size)))
		if size < api.MaxRoom { // what stands behind the Body are no noughts
			wantNone(t, 3, f, api.ErrPage)
		}
	}
}

func TestTxidInBytes(t *testing.T) {
	b := raw(t, 3, leaf(nil))
	for _, c := range []struct {
		told []byte
		want int64
	}{
		{[]byte{0, 0, 0, 0, 0, 0, 0, 0}, 0},
		{[]byte{0x3f, 0xff, 0xff, 0xff, 0xff, 0xff, 0xff, 0xff}, maxTxid - 1},
		{[]byte{0x40, 0, 0, 0, 0, 0, 0, 0}, maxTxid},
		{[]byte{0x40, 0, 0, 0, 0, 0, 0, 1}, -1},
		{[]byte{0x41, 0, 0, 0, 0, 0, 0, 0}, -1},
		{[]byte{0x7f, 0xff, 0xff, 0xff, 0xff, 0xff, 0xff, 0xff}, -1},
		{[]byte{0x80, 0, 0, 0, 0, 0, 0, 0}, -1},
		{[]byte{0x80, 0, 0, 0, 0, 0, 0, 7}, -1},
		{[]byte{0xff, 0xff, 0xff, 0xff, 0xff, 0xff, 0xff, 0xff}, -1},
	} {
		told := summed(b, 6, c.told...)
		if c.want < 0 {
			wantNone(t, 3, told, api.ErrPage)
			continue
		}
		p := leaf(nil)
		p.Txid = c.want
		wantParse(t, 3, told, p)
		wantLook(t, told, 3, p)
	}
}

// noNumbersInBytes are numbers that no page has, as four bytes tell them; two come round to 3, if they are cut.
var noNumbersInBytes = [][]byte{{0, 0, 0x10, 0}, {0, 0, 0x10, 3}, {0, 1, 0, 3}, {1, 0, 0, 3}, {0x80, 0, 0, 3}, {0xff, 0xff, 0xff, 0xff}}

func TestNumbersInBytes(t *testing.T) {
	b := raw(t, 3, leaf(some(3)))
	for _, told := range noNumbersInBytes {
		wantNone(t, 3, summed(b, 14, told...), api.ErrPage)
		wantNone(t, 3, summed(b, 18, told...), api.ErrPage)
	}
	p := leaf(some(3))
	p.Next = 0xfff
	wantLook(t, summed(b, 14, 0, 0, 0xf, 0xff), 0xfff, leaf(some(3)))
	wantNoParse(t, 3, summed(b, 14, 0, 0, 0xf, 0xff), api.ErrPage)
	wantLook(t, summed(b, 18, 0, 0, 0xf, 0xff), 3, p)
	wantParse(t, 3, summed(b, 18, 0, 0, 0xf, 0xff), p)
}

func TestNoughtsThatAreNone(t *testing.T) {
	for _, room := range rooms {
		b := raw(t, 3, leaf(some(room)))
		for at := 22; at < api.PageSize; at++ {
			if at >= 24 && at < 24+room {
				continue
			}
			for _, c := range []byte{1, 0x80, 0xff} {
				wantNone(t, 3, summed(b, at, c), api.ErrPage)
			}
		}
	}
}

// Several things are wrong, of which only the sum is told first.
func TestManyThingsWrongInBytes(t *testing.T) {
	b := summed(bytes.Repeat([]byte{0xff}, api.PageSize), 4, 0xff)
	wantNone(t, 3, b, api.ErrPage)
	wantNone(t, 3, summed(make([]byte, api.PageSize), 4, 0), api.ErrPage)
	b[4] ^= 1
	wantNone(t, 3, b, api.ErrSum)
}

func TestParsedKeepsApart(t *testing.T) {
	want := leaf(some(40))
	for _, tell := range []func([]byte) api.Page{
		func(b []byte) api.Page { p, _ := page.Parse(3, b); return p },
		func(b []byte) api.Page { _, p, _ := page.Look(b); return p },
	} {
		room := append(raw(t, 3, want), some(50)...)
		before := bytes.Clone(room)
		b := room[:api.PageSize]
		p, other := tell(b), tell(b)
		for i := range p.Body {
			p.Body[i] ^= 0xff
		}
		_ = append(p.Body, "!!!!"...)
		if !bytes.Equal(room, before) {
			t.Error("the bytes, or the room behind them, were changed")
		}
		if !alike(other, want) || !alike(tell(b), want) {
			t.Error("an answer shares memory with another one")
		}
		clear(room)
		if !alike(other, want) {
			t.Error("an answer shares memory with the bytes")
		}
	}
}

// P4.2: Text

func TestText(t *testing.T) {
	for i, want := range []string{"meta", "leaf", "branch", "chain", "free"} {
		if s, err := page.Text(api.PageKind(i + 1)); s != want || err != api.OK {
			t.Errorf("Text(%d): %q %v, want %q", i+1, s, err, want)
		}
	}
	for _, k := range noKinds {
		if s, err := page.Text(k); s != "" || err != api.ErrArg {
			t.Errorf("Text(%d): %q %v, want none, %v", k, s, err, api.ErrArg)
		}
	}
}

// P4.2: Same

// unlike tells pages of which no two are the same; some may not be.
func unlike() []api.Page {
	l := []api.Page{leaf(some(3)), leaf([]byte{1, 2, 4}), leaf([]byte{9, 2, 3}), leaf(some(2)), leaf(some(4)), leaf([]byte{1, 2, 3, 0}), leaf([]byte{0, 1, 2, 3}), leaf(nil), leaf([]byte{0}), leaf(some(api.MaxRoom)), leaf(some(api.MaxRoom + 1)), leaf(some(1000)), {}}
	for _, k := range append(kinds, noKinds...) {
		if k != api.PageLeaf {
			l = append(l, api.Page{Kind: k, Txid: 7, Next: 9, Body: some(3)})
		}
	}
	for _, txid := range append(txids, noTxids...) {
		l = append(l, api.Page{Kind: api.PageLeaf, Txid: txid, Next: 9, Body: some(3)})
	}
	for _, next := range append(numbers, noNumbers...) {
		l = append(l, api.Page{Kind: api.PageLeaf, Txid: 7, Next: next, Body: some(3)})
	}
	return l
}

func TestSame(t *testing.T) {
	l := unlike()
	for i, a := range l {
		for j, b := range l {
			b.Body = slices.Concat(b.Body)
			if got := page.Same(a, b); got != (i == j) {
				t.Errorf("Same(%.80v, %.80v): %v", a, b, got)
			}
		}
	}
}

func TestSameOfNilEmptyAndSpareRoom(t *testing.T) {
	for _, none := range [][]byte{nil, {}, some(9)[:0]} {
		for _, other := range [][]byte{nil, {}, make([]byte, 0, 5)} {
			if !page.Same(leaf(none), leaf(other)) || !page.Same(api.Page{Body: none}, api.Page{Body: other}) {
				t.Error("nil and empty are not the same")
			}
		}
	}
	room, kept := some(9), some(9)
	if !page.Same(leaf(room[:3]), leaf(some(3))) || !page.Same(leaf(room[:3]), leaf(room[:3:3])) {
		t.Error("spare room is looked at")
	}
	if !bytes.Equal(room, kept) {
		t.Error("the Body was changed")
	}
}
