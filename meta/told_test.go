package meta_test

import (
	"bytes"
	"encoding/hex"
	"fmt"
	"hash/crc32"
	"math/bits"
	"strconv"
	"testing"

	"pigeonry/api"
	"pigeonry/meta"
)

// pageTold tells a page's bytes as the chapter of layer 4 tells them, by digits to the base 16.
func pageTold(number, kind, txid, next int64, body []byte) []byte {
	digits := fmt.Sprintf("%02x%02x%016x%08x%08x%04x%x", kind, len(body), uint64(txid), number, next, 0, body)
	behind, err := hex.DecodeString(digits)
	if err != nil {
		panic(err)
	}
	return summed(append(make([]byte, 4), append(behind, make([]byte, 252-len(behind))...)...), 4)
}

// summed tells a copy of a page's bytes with others at a place, and with the sum that is right then.
func summed(b []byte, at int, others ...byte) []byte {
	c := bytes.Clone(b)
	copy(c[at:], others)
	sum := crc32.ChecksumIEEE(c[4:])
	copy(c, []byte{byte(sum >> 24), byte(sum >> 16), byte(sum >> 8), byte(sum)})
	return c
}

// bodyTold tells a meta's Body; of what does not fit into four bytes it tells the lower ones.
func bodyTold(root, free, high int64) []byte {
	b, err := hex.DecodeString(fmt.Sprintf("%08x%08x%08x", uint32(root), uint32(free), uint32(high)))
	if err != nil {
		panic(err)
	}
	return b
}

// rawTold tells a meta's bytes as the chapter tells them, of one that may not be too.
func rawTold(m api.Meta) []byte {
	number := int64(0)
	if m.Txid&1 == 1 {
		number = 1
	}
	return pageTold(number, 1, m.Txid, 0, bodyTold(m.Root, m.Free, m.High))
}

// mayTold tells whether a meta may be, as the chapter tells it.
func mayTold(m api.Meta) bool {
	page := func(n int64) bool { return n == 0 || n >= 2 && n <= m.High-1 }
	return m.Txid >= 0 && m.Txid <= 1<<62 && m.High >= 2 && m.High <= 4096 && page(m.Root) && page(m.Free)
}

// parseTold tells the meta of bytes: the only one that could have these bytes at that number, if it has.
func parseTold(number int64, b []byte) (api.Meta, api.Errno) {
	if number != 0 && number != 1 || len(b) != 256 {
		return api.Meta{}, api.ErrArg
	}
	of := func(from, to int) int64 {
		n, err := strconv.ParseInt(hex.EncodeToString(b[from:to]), 16, 64)
		if err != nil {
			return -1
		}
		return n
	}
	m := api.Meta{Txid: of(6, 14), Root: of(24, 28), Free: of(28, 32), High: of(32, 36)}
	if mayTold(m) && number == m.Txid&1 && bytes.Equal(rawTold(m), b) {
		return m, api.OK
	}
	return api.Meta{}, api.ErrMeta
}

// countsTold tells the one that counts, as the chapter tells it.
func countsTold(a, b []byte) (api.Meta, api.Errno) {
	m, e := parseTold(0, a)
	n, f := parseTold(1, b)
	switch {
	case e != api.OK && f != api.OK:
		return api.Meta{}, api.ErrMeta
	case e != api.OK:
		return n, api.OK
	case f != api.OK:
		return m, api.OK
	case m.Txid > n.Txid:
		return m, api.OK
	}
	return n, api.OK
}

// dice tells numbers that are the same each time.
type dice uint32

func (d *dice) roll(n int) int {
	*d = *d*1664525 + 1013904223
	return int(uint64(bits.RotateLeft32(uint32(*d), 16)) % uint64(n))
}

// one tells one of some things.
func one[T any](d *dice, things []T) T { return things[d.roll(len(things))] }

// meta tells a meta that may be.
func (d *dice) meta() api.Meta {
	m := api.Meta{High: int64(2 + d.roll(1+d.roll(4095)))}
	m.Txid = (int64(d.roll(1<<31))<<31 | int64(d.roll(1<<31))) >> d.roll(62)
	for _, part := range []*int64{&m.Root, &m.Free} {
		if m.High > 2 && d.roll(4) > 0 {
			*part = 2 + int64(d.roll(int(m.High-2)))
		}
	}
	return m
}

// spoil tells a copy of bytes with something changed, for which the sum is mostly right.
func (d *dice) spoil(b []byte) []byte {
	at := 4 + d.roll(len(b)-4)
	switch d.roll(8) {
	case 0:
		return summed(b, at, byte(d.roll(256)))
	case 1, 2, 3:
		return summed(b, 4+d.roll(36), byte(d.roll(256)>>d.roll(8)))
	case 4, 5:
		at = one(d, []int{4, 5, 13, 17, 21, 24, 26, 27, 30, 31, 34, 35})
		return summed(b, at, byte(int(b[at])+d.roll(5)-2))
	case 6:
		c := bytes.Clone(b)
		c[at] ^= 1 << d.roll(8)
		return c
	}
	return b[:len(b)-d.roll(2)]
}

// P6.1: of metas, some of which may not be.
func TestAllOfMetas(t *testing.T) {
	told := map[bool]int{}
	for seed := range 10000 {
		d := dice(seed)
		m := d.meta()
		for range d.roll(3) {
			part := one(&d, []*int64{&m.Txid, &m.Root, &m.Free, &m.High})
			*part = one(&d, []int64{*part + 1, *part - 1, -*part, *part + 1<<32, m.High, m.High - 1, 1, 2, int64(d.roll(4200)), 1 << 62})
		}
		may := mayTold(m)
		told[may]++
		if !may {
			wantMayNot(t, m)
			continue
		}
		wantRaw(t, m, rawTold(m))
	}
	if min(told[true], told[false]) < 2000 {
		t.Errorf("too few of a kind were looked at: %v", told)
	}
}

// P6.1: what Parse tells of bytes that are a meta's but for a few is what the chapter tells, and has these bytes.
func TestAllOfBytes(t *testing.T) {
	told := map[api.Errno]int{}
	for seed := range 10000 {
		d := dice(seed)
		b := rawTold(d.meta())
		for range d.roll(3) {
			if len(b) == api.PageSize {
				b = d.spoil(b)
			}
		}
		for number := range int64(3) {
			m, e := parseTold(number, b)
			told[e]++
			if e != api.OK {
				wantNoParse(t, number, b, e)
				continue
			}
			wantParse(t, number, b, m)
			got, _ := meta.Parse(number, b)
			if again, e := meta.Raw(got); e != api.OK || !bytes.Equal(again, b) {
				t.Errorf("seed %d: Raw of Parse(%x): %x %v", seed, b, again, e)
			}
		}
	}
	if min(told[api.OK], told[api.ErrMeta], told[api.ErrArg]) < 1000 {
		t.Errorf("too few of a kind were looked at: %v", told)
	}
}

// Any bytes at all, and such whose sum is right.
func TestParseOfAnyBytes(t *testing.T) {
	for seed := range 2000 {
		d := dice(seed)
		b := make([]byte, api.PageSize)
		for i := range b {
			b[i] = byte(d.roll(256))
		}
		for _, c := range [][]byte{b, summed(b, 4), summed(b, 4, 1, 12), b[:d.roll(256)]} {
			for number := range int64(2) {
				m, e := parseTold(number, c)
				if got, err := meta.Parse(number, c); got != m || err != e {
					t.Errorf("seed %d: Parse(%d, %x): %v %v, want %v %v", seed, number, c, got, err, m, e)
				}
			}
		}
	}
}

// P6.2: of bytes that are metas' for the most part, at any of both places.
func TestAllOfCounts(t *testing.T) {
	told := map[api.Errno]int{}
	for seed := range 10000 {
		d := dice(seed)
		sides := [2][]byte{}
		for i := range sides {
			m := d.meta()
			if d.roll(5) > 0 {
				m.Txid = m.Txid&^1 + int64(i)
			}
			sides[i] = rawTold(m)
			if d.roll(3) == 0 {
				sides[i] = d.spoil(sides[i])
			}
		}
		m, e := countsTold(sides[0], sides[1])
		told[e]++
		if e != api.OK {
			wantNoCounts(t, sides[0], sides[1])
			continue
		}
		wantCounts(t, sides[0], sides[1], m)
	}
	if min(told[api.OK], told[api.ErrMeta]) < 500 {
		t.Errorf("too few of a kind were looked at: %v", told)
	}
}
