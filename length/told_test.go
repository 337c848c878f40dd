package length_test

import (
	"bytes"
	"slices"
	"testing"

	"pigeonry/api"
	"pigeonry/length"
)

const greatest = 268435455

// toldRaw tells the bytes of a length as the chapter tells them, by its digits to the base 128; none of one that may not be.
func toldRaw(n int64) []byte {
	if n < 0 || n > greatest {
		return nil
	}
	b := []byte{byte(n % 128)}
	for n /= 128; n > 0; n /= 128 {
		b[len(b)-1] += 128
		b = append(b, byte(n%128))
	}
	return b
}

// toldAll tells the bytes of all.
func toldAll(n ...int64) ([]byte, api.Errno) {
	var all []byte
	for _, one := range n {
		b := toldRaw(one)
		if b == nil {
			return nil, api.ErrArg
		}
		all = append(all, b...)
	}
	return all, api.OK
}

// toldRead tells the length that stands at the beginning of bytes: those up to the first one that does not go on must be its bytes.
func toldRead(b []byte) (int64, int, api.Errno) {
	last := slices.IndexFunc(b, func(one byte) bool { return one < 128 })
	switch {
	case last < 0 && len(b) < 4:
		return 0, 0, api.OK
	case last < 0 || last > 3:
		return 0, 0, api.ErrLength
	}
	n := int64(0)
	for i := last; i >= 0; i-- {
		n = n*128 + int64(b[i]%128)
	}
	if !bytes.Equal(toldRaw(n), b[:last+1]) {
		return 0, 0, api.ErrLength
	}
	return n, last + 1, api.OK
}

// toldSplit tells the parts, and what is left; of all that is wrong, what the chapter names first.
func toldSplit(b []byte, most int64) (parts [][]byte, left []byte, _ api.Errno) {
	if toldRaw(most) == nil {
		return nil, nil, api.ErrArg
	}
	long := false
	for left = b; ; {
		n, size, e := toldRead(left)
		if e != api.OK {
			return nil, nil, e
		}
		long = long || n > most
		if size == 0 || n > int64(len(left)-size) {
			break
		}
		parts = append(parts, left[size:size+int(n)])
		left = left[size+int(n):]
	}
	if long {
		return nil, nil, api.ErrLong
	}
	return parts, left, api.OK
}

// short tells bytes, of many the first ones.
func short(b []byte) []byte { return b[:min(len(b), 40)] }

func wantRaw(t *testing.T, n int64) {
	t.Helper()
	want, e := toldAll(n)
	wantRawIs(t, n, want, e)
}

// wantRawIs holds what is told of one length against its bytes.
func wantRawIs(t *testing.T, n int64, want []byte, wantErr api.Errno) {
	t.Helper()
	if b, e := length.Raw(n); !bytes.Equal(b, want) || e != wantErr {
		t.Errorf("Raw(%d): %x %v, want %x %v", n, b, e, want, wantErr)
	}
	if b, e := length.All(n); !bytes.Equal(b, want) || e != wantErr {
		t.Errorf("All(%d): %x %v, want %x %v", n, b, e, want, wantErr)
	}
	if size := length.Size(n); size != len(want) {
		t.Errorf("Size(%d): %d, want %d", n, size, len(want))
	}
}

func wantAll(t *testing.T, n ...int64) {
	t.Helper()
	want, wantErr := toldAll(n...)
	if b, e := length.All(n...); !bytes.Equal(b, want) || e != wantErr {
		t.Errorf("All of %d, %.20d: %x %v, want %x %v", len(n), n[:min(len(n), 20)], short(b), e, short(want), wantErr)
	}
}

func wantReadIs(t *testing.T, b []byte, want int64, wantSize int, wantErr api.Errno) {
	t.Helper()
	if n, size, e := length.Read(b); n != want || size != wantSize || e != wantErr {
		t.Errorf("Read(%x): %d in %d, %v, want %d in %d, %v", short(b), n, size, e, want, wantSize, wantErr)
	}
}

func wantRead(t *testing.T, b []byte) {
	t.Helper()
	n, size, e := toldRead(b)
	wantReadIs(t, b, n, size, e)
}

func wantSplitIs(t *testing.T, b []byte, most int64, want [][]byte, wantLeft []byte, wantErr api.Errno) {
	t.Helper()
	parts, left, e := length.Split(b, most)
	if e != wantErr || !bytes.Equal(left, wantLeft) || !slices.EqualFunc(parts, want, bytes.Equal) {
		t.Errorf("Split(%x of %d, %d): %d parts %.20x, left %x, %v, want %d parts %.20x, left %x, %v", short(b), len(b), most, len(parts), parts, short(left), e, len(want), want, short(wantLeft), wantErr)
	}
}

func wantSplit(t *testing.T, b []byte, most int64) {
	t.Helper()
	parts, left, e := toldSplit(b, most)
	wantSplitIs(t, b, most, parts, left, e)
}

// dice tells numbers that are the same each time.
type dice uint32

func (d *dice) roll(n int) int {
	*d = *d*1664525 + 1013904223
	return int(*d>>8) % n
}

// pick tells one of some things.
func pick[T any](d *dice, things ...T) T { return things[d.roll(len(things))] }

// number tells a length of any count of bytes, seldom one that may not be.
func (d *dice) number(seldom int) int64 {
	if d.roll(seldom) == 0 {
		return pick(d, mayNotBe...)
	}
	return pick(d, int64(d.roll(4)), int64(d.roll(1<<7)), int64(d.roll(1<<14)), int64(d.roll(1<<21)), int64(d.roll(1<<14))<<14|int64(d.roll(1<<14)), pick(d, mayBe...))
}

// part tells bytes behind their length.
func (d *dice) part() []byte {
	n := pick(d, 0, 1, 2, d.roll(10), d.roll(100), d.roll(400))
	b := toldRaw(int64(n))
	for range n {
		b = append(b, byte(d.roll(256)))
	}
	return b
}

// stream tells parts, few or many of which are wrong, the last one of which may not be all there.
func (d *dice) stream() []byte {
	var b []byte
	wrong := pick(d, 0, 0, 1, 4)
	for range d.roll(8) {
		if d.roll(10) >= wrong {
			b = append(b, d.part()...)
		} else {
			b = append(b, pick(d, append(noLengths(), cutLengths()...)...)...)
		}
	}
	return b[:len(b)-pick(d, 0, 0, d.roll(len(b)+1))]
}

func TestLengthsAsTold(t *testing.T) {
	for n := int64(0); n < 1<<17; n++ {
		wantRaw(t, n)
		wantRead(t, toldRaw(n))
		if t.Failed() {
			t.Fatalf("length %d", n)
		}
	}
	for n := int64(1 << 17); n <= greatest; n += 997 {
		wantRaw(t, n)
		wantRead(t, toldRaw(n))
		if t.Failed() {
			t.Fatalf("length %d", n)
		}
	}
}

// Any numbers, most of which may not be.
func TestNumbersAsTold(t *testing.T) {
	for seed := range 20000 {
		d := dice(seed)
		n := int64(d.roll(1<<24))<<40 ^ int64(d.roll(1<<24))<<20 ^ int64(d.roll(1<<24))
		for shift := range 64 {
			wantRaw(t, n>>shift)
			wantRaw(t, -(n >> shift))
		}
		if t.Failed() {
			t.Fatalf("seed %d", seed)
		}
	}
}

func TestAllAsTold(t *testing.T) {
	for seed := range 20000 {
		d := dice(seed)
		seldom := pick(&d, 10, 50, 1000)
		n := make([]int64, d.roll(30))
		for i := range n {
			n[i] = d.number(seldom)
		}
		wantAll(t, n...)
		if t.Failed() {
			t.Fatalf("seed %d", seed)
		}
	}
}

// All bytes of up to two, and all of three to five that are at the edges of what a byte may be.
func TestReadAsTold(t *testing.T) {
	for a := range 256 {
		wantRead(t, []byte{byte(a)})
		for b := range 256 {
			wantRead(t, []byte{byte(a), byte(b)})
		}
	}
	edges := []byte{0, 1, 2, 0x3f, 0x40, 0x7e, 0x7f, 0x80, 0x81, 0xc0, 0xfe, 0xff}
	var further func(b []byte, left int)
	further = func(b []byte, left int) {
		wantRead(t, b)
		wantSplit(t, b, 3)
		if left == 0 {
			return
		}
		for _, one := range edges {
			further(append(slices.Clone(b), one), left-1)
		}
	}
	further(nil, 5)
}

// Bytes of all kinds, at bounds of all kinds.
func TestSplitAsTold(t *testing.T) {
	counts := map[api.Errno]int{}
	for seed := range 20000 {
		d := dice(seed)
		b := d.stream()
		for _, most := range []int64{0, 1, 2, 9, 99, 399, 400, greatest, d.number(5)} {
			wantSplit(t, b, most)
			_, _, e := toldSplit(b, most)
			counts[e]++
		}
		if t.Failed() {
			t.Fatalf("seed %d", seed)
		}
	}
	for _, e := range []api.Errno{api.OK, api.ErrArg, api.ErrLength, api.ErrLong} {
		if counts[e] < 1000 {
			t.Errorf("%v just %d times", e, counts[e])
		}
	}
}

func TestSplitOfAnyBytesAsTold(t *testing.T) {
	for seed := range 40000 {
		d := dice(seed)
		b := make([]byte, d.roll(12))
		for i := range b {
			b[i] = pick(&d, byte(d.roll(256)), byte(d.roll(4)), byte(0x80+d.roll(3)), 0)
		}
		wantRead(t, b)
		for _, most := range []int64{0, 1, 2, 3, 127, 128, greatest, -1} {
			wantSplit(t, b, most)
		}
		if t.Failed() {
			t.Fatalf("seed %d", seed)
		}
	}
}

// Parts that come in any pieces, of which what is left stands ahead of what comes then: all parts are told at last, in their order, as of all bytes at once.
func TestPiecesAsTold(t *testing.T) {
	for seed := range 3000 {
		d := dice(seed)
		var b, left []byte
		for range d.roll(8) {
			b = append(b, d.part()...)
		}
		want, _, _ := toldSplit(b, greatest)
		var got [][]byte
		for at := 0; at < len(b); {
			to := min(len(b), at+1+d.roll(pick(&d, 2, 5, 200)))
			parts, rest, e := length.Split(append(left, b[at:to]...), greatest)
			if e != api.OK {
				t.Fatalf("seed %d: up to %d: %v", seed, to, e)
			}
			got, left, at = append(got, parts...), rest, to
		}
		if len(left) > 0 || !slices.EqualFunc(got, want, bytes.Equal) {
			t.Fatalf("seed %d: %x, left %x, want %x", seed, got, left, want)
		}
	}
}
