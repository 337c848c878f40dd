package slots_test

import (
	"bytes"
	"encoding/hex"
	"fmt"
	"math/bits"
	"slices"
	"strings"
	"testing"

	"pigeonry/api"
	"pigeonry/slots"
)

// cellTold tells a cell's bytes as the chapter tells them, by digits to the base 16.
func cellTold(k api.PageKind, c api.Cell) string {
	digits := fmt.Sprintf("%02x%x", len(c.Key), c.Key)
	switch {
	case k == api.PageBranch:
		return digits + fmt.Sprintf("%08x", c.Page)
	case c.Long:
		return digits + fmt.Sprintf("01%08x%08x", c.Page, c.Size)
	}
	return digits + fmt.Sprintf("00%02x%x", len(c.Text), c.Text)
}

// rawTold tells the bytes of cells, whether they fit or not.
func rawTold(k api.PageKind, l []api.Cell) []byte {
	digits, behind := fmt.Sprintf("%04x", len(l)), ""
	for _, c := range l {
		digits += fmt.Sprintf("%04x", 2+2*len(l)+len(behind)/2)
		behind += cellTold(k, c)
	}
	b, err := hex.DecodeString(digits + behind)
	if err != nil {
		panic(err)
	}
	return b
}

// mayTold tells whether cells may be, as the chapter tells it.
func mayTold(k api.PageKind, l []api.Cell) bool {
	if k != api.PageLeaf && (k != api.PageBranch || len(l) == 0) {
		return false
	}
	for i, c := range l {
		if i > 0 && strings.Compare(l[i-1].Key, c.Key) >= 0 || len(c.Key) > 48 {
			return false
		}
		page, none := c.Page >= 1 && c.Page <= 4095, c.Page == 0
		var may bool
		switch {
		case k == api.PageBranch:
			may = page && !c.Long && c.Text == "" && c.Size == 0
		case c.Long:
			may = page && c.Text == "" && c.Size >= 61 && c.Size <= 4096 && c.Key != ""
		default:
			may = none && c.Size == 0 && len(c.Text) <= 60 && c.Key != ""
		}
		if !may {
			return false
		}
	}
	return true
}

// wayTold tells how many first ones a half has: each way is tried, and the bytes of both parts are counted.
func wayTold(k api.PageKind, l []api.Cell) int {
	way, least := 0, 1<<60
	for n := len(l) - 1; n >= 1; n-- {
		if greater := max(len(rawTold(k, l[:n])), len(rawTold(k, l[n:]))); greater <= least {
			way, least = n, greater
		}
	}
	return way
}

// parseTold tells the cells of bytes: it takes them in order, and looks whether these have the bytes.
func parseTold(k api.PageKind, b []byte) (l []api.Cell, e api.Errno) {
	e = api.ErrCells
	defer func() {
		if recover() != nil || !mayTold(k, l) || len(b) > 232 || !bytes.Equal(rawTold(k, l), b) {
			l = nil
			return
		}
		e = api.OK
	}()
	many := int(b[0])<<8 | int(b[1])
	at := 2 + 2*many
	cut := func(n int) string {
		at += n
		return string(b[at-n : at])
	}
	whole := func(s string) (n int64) {
		for _, one := range []byte(s) {
			n = n*256 + int64(one)
		}
		return n
	}
	for range many {
		var c api.Cell
		c.Key = cut(int(whole(cut(1))))
		if k == api.PageLeaf && cut(1) == "\x00" {
			c.Text = cut(int(whole(cut(1))))
		} else {
			c.Page = whole(cut(4))
			if k == api.PageLeaf {
				c.Long, c.Size = true, whole(cut(4))
			}
		}
		l = append(l, c)
	}
	return l, e
}

// dice tells numbers that are the same each time.
type dice uint32

func (d *dice) roll(n int) int {
	*d = *d*1664525 + 1013904223
	return int(uint64(bits.RotateLeft32(uint32(*d), 16)) % uint64(n))
}

// small tells from 0 to n - 1, more often a small number.
func (d *dice) small(n int) int { return d.roll(1 + d.roll(n)) }

func (d *dice) text(n int) string {
	b := make([]byte, n)
	for i := range b {
		b[i] = "abc\x00\x80\xff"[d.roll(6)]
	}
	return string(b)
}

func (d *dice) cell(k api.PageKind) api.Cell {
	page, key := int64(1+d.roll(4095)), d.text(1+d.small(48))
	switch {
	case k == api.PageBranch:
		if d.roll(5) == 0 {
			key = ""
		}
		return api.Cell{Key: key, Page: page}
	case d.roll(3) == 0:
		return api.Cell{Key: key, Long: true, Page: page, Size: int64(61 + d.roll(4036))}
	}
	return api.Cell{Key: key, Text: d.text(d.small(61))}
}

// cells tells at most so many cells that may be.
func (d *dice) cells(k api.PageKind, most int) []api.Cell {
	var l []api.Cell
	for range 1 + d.roll(most) {
		l = append(l, d.cell(k))
	}
	slices.SortFunc(l, func(a, b api.Cell) int { return strings.Compare(a.Key, b.Key) })
	return slices.CompactFunc(l, func(a, b api.Cell) bool { return a.Key == b.Key })
}

// spoil changes something of cells, which then may not be, for the most part.
func (d *dice) spoil(l []api.Cell) {
	c, other := &l[d.roll(len(l))], l[d.roll(len(l))]
	switch d.roll(8) {
	case 0:
		c.Key = other.Key
	case 1:
		c.Key = d.text(d.roll(60))
	case 2:
		c.Text = d.text(d.roll(70))
	case 3:
		c.Long = !c.Long
	case 4:
		c.Page = int64(d.roll(3) * (4094 + d.roll(4)))
	case 5:
		c.Size = int64(58 + d.roll(6))
	case 6:
		c.Size = int64(d.roll(3) * (4094 + d.roll(4)))
	case 7:
		*c = other
	}
}

var bothKinds = []api.PageKind{api.PageLeaf, api.PageBranch}

// P5.1, P5.3: of cells, some of which may not be, some do not fit.
func TestAllOfCells(t *testing.T) {
	told := map[string]int{}
	for seed := range 8000 {
		d := dice(seed)
		k := bothKinds[d.roll(2)]
		l := d.cells(k, 12)
		for range d.roll(3) {
			d.spoil(l)
		}
		if !mayTold(k, l) {
			told["may not be"]++
			wantMayNot(t, k, l)
			continue
		}
		b := rawTold(k, l)
		wantMay(t, k, l, len(b))
		if len(b) > 232 {
			told["do not fit"]++
			continue
		}
		told["fit"]++
		wantRaw(t, k, l, b...)
		if got, _ := slots.Parse(k, b); !slots.Same(got, l) {
			t.Errorf("seed %d: not the same", seed)
		}
	}
	if min(told["may not be"], told["do not fit"], told["fit"]) < 500 {
		t.Errorf("too few of a kind were looked at: %v", told)
	}
}

// P5.1, P5.3: what Parse tells of bytes that are cells' but for a few is what the chapter tells, and has these bytes.
func TestAllOfBytes(t *testing.T) {
	told := map[api.Errno]int{}
	for seed := range 12000 {
		d := dice(seed)
		k := bothKinds[d.roll(2)]
		b := rawTold(k, d.cells(k, 6))
		for range d.roll(4) {
			at := d.roll(len(b))
			switch d.roll(10) {
			case 0:
				b = slices.Delete(b, at, at+1)
			case 1:
				b = slices.Insert(b, at, byte(d.small(256)))
			default:
				b[at] = byte(int(b[at]) + d.small(9) - 4)
			}
		}
		want, e := parseTold(k, b)
		told[e]++
		if e != api.OK {
			wantNoParse(t, k, b, e)
			continue
		}
		wantParse(t, k, b, want)
		l, _ := slots.Parse(k, b)
		if again := raw(t, k, l...); !bytes.Equal(again, b) {
			t.Errorf("seed %d: Raw of Parse(%x): %x", seed, b, again)
		}
	}
	if told[api.OK] < 1000 || told[api.ErrCells] < 1000 {
		t.Errorf("too few of a kind were looked at: %v", told)
	}
}

// Any bytes at all.
func TestParseOfAnyBytes(t *testing.T) {
	for seed := range 20000 {
		d := dice(seed)
		b := make([]byte, d.small(40))
		for i := range b {
			b[i] = byte(d.small(1 + d.roll(256)))
		}
		for _, k := range bothKinds {
			want, e := parseTold(k, b)
			if l, err := slots.Parse(k, b); !alike(l, want) || err != e {
				t.Errorf("seed %d: Parse(%d, %x): %v %v, want %v %v", seed, k, b, l, err, want, e)
			}
		}
	}
}

// P5.2: Find looks at one cell after the other.
func TestFindAsTold(t *testing.T) {
	for seed := range 2000 {
		d := dice(seed)
		l := d.cells(bothKinds[d.roll(2)], 20)
		for range 20 {
			key := d.text(d.small(10))
			if d.roll(2) == 0 {
				key = l[d.roll(len(l))].Key
			}
			at := 0
			for at < len(l) && strings.Compare(l[at].Key, key) < 0 {
				at++
			}
			wantFind(t, l, key, at, at < len(l) && l[at].Key == key)
		}
	}
}

// P5.2: Halve is the way that is best of all.
func TestHalveAsTold(t *testing.T) {
	for seed := range 3000 {
		d := dice(seed)
		k := bothKinds[d.roll(2)]
		l := d.cells(k, 20)
		if len(l) < 2 {
			wantNoHalves(t, k, l)
			continue
		}
		wantHalves(t, k, l, wayTold(k, l))
	}
}

// P5.3: cells that fit, and one more, halved, fit each; the parts may be.
func TestHalvesFit(t *testing.T) {
	for seed := range 6000 {
		d := dice(seed)
		k := bothKinds[d.roll(2)]
		l := d.cells(k, 14)
		for len(rawTold(k, l)) > 232 {
			l = l[:len(l)-1]
		}
		more := d.cell(k)
		if d.roll(2) == 0 { // the greatest that there is
			more = api.Cell{Key: d.text(48), Page: 4095}
			if k == api.PageLeaf {
				more = api.Cell{Key: more.Key, Text: d.text(60)}
			}
		}
		at, is := slots.Find(l, more.Key)
		if is {
			continue
		}
		l = slices.Insert(l, at, more)
		if len(l) < 2 {
			continue
		}
		left, right, e := slots.Halve(k, l)
		if e != api.OK || !alike(slices.Concat(left, right), l) {
			t.Fatalf("seed %d: Halve(%s): %v", seed, short(k, l), e)
		}
		for _, part := range [][]api.Cell{left, right} {
			if _, e := slots.Raw(k, part); e != api.OK {
				t.Errorf("seed %d: Raw(%s): %v", seed, short(k, part), e)
			}
		}
	}
}
