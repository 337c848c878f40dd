package page_test

import (
	"bytes"
	"encoding/hex"
	"fmt"
	"hash/crc32"
	"strconv"
	"testing"

	"pigeonry/api"
	"pigeonry/page"
)

// sumTold tells the four bytes of the sum of bytes.
func sumTold(b []byte) []byte {
	sum := crc32.ChecksumIEEE(b)
	return []byte{byte(sum >> 24), byte(sum >> 16), byte(sum >> 8), byte(sum)}
}

// rawTold tells a page's bytes as the chapter tells them, by digits to the base 16.
func rawTold(number int64, p api.Page) []byte {
	digits := fmt.Sprintf("%02x%02x%016x%08x%08x%04x%x", int(p.Kind), len(p.Body), p.Txid, number, p.Next, 0, p.Body)
	behind, err := hex.DecodeString(digits)
	if err != nil {
		panic(err)
	}
	behind = append(behind, make([]byte, api.PageSize-4-len(behind))...)
	return append(sumTold(behind), behind...)
}

// summed tells a copy of a page's bytes with others at a place, and with the sum that is right then.
func summed(b []byte, at int, others ...byte) []byte {
	c := bytes.Clone(b)
	copy(c[at:], others)
	copy(c, sumTold(c[4:]))
	return c
}

// lookTold tells the number and the page of bytes as the chapter tells them: the only ones that could have these bytes, if they have.
func lookTold(b []byte) (int64, api.Page, api.Errno) {
	if len(b) != api.PageSize {
		return 0, api.Page{}, api.ErrArg
	}
	if !bytes.Equal(b[:4], sumTold(b[4:])) {
		return 0, api.Page{}, api.ErrSum
	}
	of := func(from, to int) int64 {
		n, err := strconv.ParseInt(fmt.Sprintf("%x", b[from:to]), 16, 64)
		if err != nil {
			return -1
		}
		return n
	}
	kind, size, txid, number, next := of(4, 5), of(5, 6), of(6, 14), of(14, 18), of(18, 22)
	may := kind >= 1 && kind <= 5 && size <= 232 && txid >= 0 && txid <= 1<<62 && number < 4096 && next < 4096
	if may {
		p := api.Page{Kind: api.PageKind(kind), Txid: txid, Next: next, Body: b[24 : 24+size]}
		if bytes.Equal(rawTold(number, p), b) {
			return number, p, api.OK
		}
	}
	return 0, api.Page{}, api.ErrPage
}

// dice tells numbers that are the same each time.
type dice uint32

func (d *dice) roll(n int) int {
	*d = *d*1664525 + 1013904223
	return int(*d>>8) % n
}

func (d *dice) bytes(n int) []byte {
	b := make([]byte, n)
	for i := range b {
		b[i] = byte(d.roll(256))
	}
	return b
}

func (d *dice) page() (int64, api.Page) {
	txid := int64(d.roll(1<<20))<<42 | int64(d.roll(1<<20))<<21 | int64(d.roll(1<<20))
	p := api.Page{Kind: api.PageKind(1 + d.roll(5)), Txid: txid >> d.roll(62), Next: int64(d.roll(api.MaxPages)), Body: d.bytes(d.roll(api.MaxRoom + 1))}
	return int64(d.roll(api.MaxPages)), p
}

// P4.3: Parse of Raw is the page.
func TestParseOfRawIsThePage(t *testing.T) {
	for seed := range 3000 {
		d := dice(seed)
		number, p := d.page()
		b := raw(t, number, p)
		if !bytes.Equal(b, rawTold(number, p)) {
			t.Fatalf("seed %d: Raw(%d, %v): %x", seed, number, p, b)
		}
		wantParse(t, number, b, p)
		wantLook(t, b, number, p)
		if got, _ := page.Parse(number, b); !page.Same(got, p) {
			t.Errorf("seed %d: not the same", seed)
		}
	}
}

// P4.3: what Look tells, if it tells a page, has the bytes again; what it tells is what the chapter tells, of bytes that are a page's but for a few.
func TestRawOfLookIsTheBytes(t *testing.T) {
	told := map[api.Errno]int{}
	for seed := range 6000 {
		d := dice(seed)
		b := rawTold(d.page())
		for range d.roll(4) {
			at := 4 + d.roll(20)
			if d.roll(4) == 0 {
				at = d.roll(api.PageSize)
			}
			b = summed(b, at, byte(d.roll(256)>>d.roll(8)))
		}
		if d.roll(10) == 0 {
			b[d.roll(len(b))] ^= byte(1 + d.roll(255))
		}
		number, p, err := lookTold(b)
		told[err]++
		if err != api.OK {
			wantNone(t, int64(d.roll(api.MaxPages)), b, err)
			continue
		}
		wantLook(t, b, number, p)
		n, q, _ := page.Look(b)
		if again := raw(t, n, q); !bytes.Equal(again, b) {
			t.Errorf("seed %d: Raw of Look(%x): %x", seed, b, again)
		}
	}
	if told[api.OK] < 1000 || told[api.ErrPage] < 1000 || told[api.ErrSum] < 100 {
		t.Errorf("too few of a kind were looked at: %v", told)
	}
}

// Any bytes at all.
func TestLookOfAnyBytes(t *testing.T) {
	for seed := range 3000 {
		d := dice(seed)
		b := d.bytes(api.PageSize)
		wantNone(t, int64(d.roll(api.MaxPages)), b, api.ErrSum)
		right := summed(b, 4)
		number, p, err := lookTold(right)
		if n, q, e := page.Look(right); n != number || !alike(p, q) || e != err {
			t.Errorf("seed %d: Look(%x): %d %v %v, want %d %v %v", seed, right, n, q, e, number, p, err)
		}
	}
}

// wantTurned turns bits of a page's bytes, asks, and turns them back.
func wantTurned(t *testing.T, number int64, b []byte, bits ...int) {
	t.Helper()
	for _, bit := range bits {
		b[bit/8] ^= 1 << (bit % 8)
	}
	wantNoParse(t, number, b, api.ErrSum)
	wantNoLook(t, b, api.ErrSum)
	for _, bit := range bits {
		b[bit/8] ^= 1 << (bit % 8)
	}
}

// turnable are pages' bytes, some full of bits and some nearly empty.
func turnable(t *testing.T) map[int64][]byte {
	return map[int64][]byte{
		0:    raw(t, 0, api.Page{Kind: api.PageMeta}),
		3:    raw(t, 3, leaf(some(40))),
		4095: raw(t, 4095, api.Page{Kind: api.PageFree, Txid: maxTxid, Next: 4095, Body: bytes.Repeat([]byte{0xff}, api.MaxRoom)}),
	}
}

// P4.3: bytes of which one bit is turned, wherever it is, or two or three, two of them in the head, are ErrSum.
func TestTurnedBitsOfTheHead(t *testing.T) {
	for number, b := range turnable(t) {
		for i := range 8 * len(b) {
			wantTurned(t, number, b, i)
		}
		for i := range 8 * 24 {
			for j := range i {
				wantTurned(t, number, b, i, j)
				wantTurned(t, number, b, i, j, i+1+j)
			}
		}
		if t.Failed() {
			t.Fatalf("the page %d", number)
		}
	}
}

// P4.3: two or three bits, wherever they are.
func TestTurnedBitsAnywhere(t *testing.T) {
	for number, b := range turnable(t) {
		d := dice(number)
		for range 20000 {
			i := d.roll(8 * len(b))
			j := (i + 1 + d.roll(8*len(b)-1)) % (8 * len(b))
			wantTurned(t, number, b, i, j)
			if k := d.roll(8 * len(b)); k != i && k != j {
				wantTurned(t, number, b, i, j, k)
			}
		}
	}
}
