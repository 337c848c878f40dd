package wire_test

import (
	"bytes"
	"math"
	"strings"
	"testing"

	"pigeonry/api"
	"pigeonry/wire"
)

const longText = 65535 // as many bytes as a text has at most

// noSizes are numbers of bytes that no number has; the great ones come round to 0, 1 and 8 if they are taken 8 times, or cut.
var noSizes = []int{0, 9, 10, 16, 64, -1, -8, math.MinInt8, math.MaxInt32, math.MinInt32, 1<<32 + 1, 1<<61 + 1, 1 << 61, math.MaxInt, math.MinInt}

// greatest tells the greatest number that so many bytes hold.
func greatest(size int) uint64 { return math.MaxUint64 >> (64 - 8*size) }

func wantErr(t *testing.T, what string, got, want api.Errno) {
	t.Helper()
	if got != want {
		t.Errorf("%s: %v, want %v", what, got, want)
	}
}

func wantBytes(t *testing.T, w *wire.Writer, want []byte) {
	t.Helper()
	if got := w.Bytes(); !bytes.Equal(got, want) || w.Len() != len(want) {
		t.Errorf("Bytes: %.40x, Len %d; want %.40x, %d", got, w.Len(), want, len(want))
	}
}

func wantLeft(t *testing.T, r *wire.Reader, want []byte) {
	t.Helper()
	if got := r.Rest(); !bytes.Equal(got, want) || r.Left() != len(want) {
		t.Errorf("Rest: %.40x, Left %d; want %.40x, %d", got, r.Left(), want, len(want))
	}
}

func wantNumber(t *testing.T, r *wire.Reader, size int, want uint64, wantErr api.Errno) {
	t.Helper()
	if n, err := r.Number(size); n != want || err != wantErr {
		t.Errorf("Number(%d): %x %v, want %x %v", size, n, err, want, wantErr)
	}
}

func wantTruth(t *testing.T, r *wire.Reader, want bool, wantErr api.Errno) {
	t.Helper()
	if is, err := r.Truth(); is != want || err != wantErr {
		t.Errorf("Truth: %v %v, want %v %v", is, err, want, wantErr)
	}
}

func wantText(t *testing.T, r *wire.Reader, want string, wantErr api.Errno) {
	t.Helper()
	if s, err := r.Text(); s != want || err != wantErr {
		t.Errorf("Text: %.40x of %d bytes, %v; want %.40x of %d, %v", s, len(s), err, want, len(want), wantErr)
	}
}

// filled makes a writer of so many bytes, and tells these too.
func filled(t *testing.T, size int) (*wire.Writer, []byte) {
	t.Helper()
	w := wire.NewWriter()
	var b []byte
	for size-len(b) >= 8 {
		wantErr(t, "Number", w.Number(0x0102030405060708, 8), api.OK)
		b = append(b, 1, 2, 3, 4, 5, 6, 7, 8)
	}
	for len(b) < size {
		wantErr(t, "Truth", w.Truth(true), api.OK)
		b = append(b, 1)
	}
	wantBytes(t, w, b)
	return w, b
}

// P3.1: NewWriter

func TestNewWriterHasNoBytes(t *testing.T) {
	w := wire.NewWriter()
	if w == nil {
		t.Fatal("NewWriter: nil")
	}
	wantBytes(t, w, nil)
}

func TestWritersGoApart(t *testing.T) {
	v, w := wire.NewWriter(), wire.NewWriter()
	wantErr(t, "Text", v.Text("ab"), api.OK)
	wantBytes(t, w, nil)
	wantErr(t, "Number", w.Number(7, 1), api.OK)
	wantBytes(t, v, []byte{0, 2, 'a', 'b'})
	wantBytes(t, w, []byte{7})
}

// P3.1: Number

func TestWriteNumber(t *testing.T) {
	for _, c := range []struct {
		n    uint64
		size int
		want []byte
	}{
		{0, 1, []byte{0}},
		{1, 1, []byte{1}},
		{0x7f, 1, []byte{0x7f}},
		{0xff, 1, []byte{0xff}},
		{258, 3, []byte{0, 1, 2}},
		{256, 2, []byte{1, 0}},
		{0x12345, 3, []byte{1, 0x23, 0x45}},
		{0x80, 4, []byte{0, 0, 0, 0x80}},
		{1 << 32, 5, []byte{1, 0, 0, 0, 0}},
		{0xa1b2c3d4e5f6, 6, []byte{0xa1, 0xb2, 0xc3, 0xd4, 0xe5, 0xf6}},
		{5, 7, []byte{0, 0, 0, 0, 0, 0, 5}},
		{0x0102030405060708, 8, []byte{1, 2, 3, 4, 5, 6, 7, 8}},
		{1 << 63, 8, []byte{0x80, 0, 0, 0, 0, 0, 0, 0}},
	} {
		w := wire.NewWriter()
		wantErr(t, "Number", w.Number(c.n, c.size), api.OK)
		wantBytes(t, w, c.want)
	}
}

func TestWriteNumbersBehindEachOther(t *testing.T) {
	w := wire.NewWriter()
	var want []byte
	for size := 1; size <= 8; size++ {
		wantErr(t, "Number", w.Number(greatest(size), size), api.OK)
		want = append(want, bytes.Repeat([]byte{0xff}, size)...)
		wantErr(t, "Number", w.Number(0, size), api.OK)
		want = append(want, make([]byte, size)...)
		wantBytes(t, w, want)
	}
}

func TestWriteNumberThatDoesNotFit(t *testing.T) {
	for size := 1; size < 8; size++ {
		w := wire.NewWriter()
		wantErr(t, "Number", w.Number(greatest(size)-1, size), api.OK)
		want := w.Bytes()
		for _, n := range []uint64{greatest(size) + 1, greatest(size) + 2, greatest(size + 1), 1 << 63, math.MaxUint64} {
			wantErr(t, "Number that does not fit", w.Number(n, size), api.ErrArg)
			wantBytes(t, w, want)
		}
		wantErr(t, "Number of one byte more", w.Number(greatest(size)+1, size+1), api.OK)
	}
}

func TestWriteNumberOfNoSize(t *testing.T) {
	for _, size := range noSizes {
		w := wire.NewWriter()
		wantErr(t, "Number", w.Number(3, 1), api.OK)
		for _, n := range []uint64{0, 1, math.MaxUint64} {
			wantErr(t, "Number of no size", w.Number(n, size), api.ErrArg)
		}
		wantBytes(t, w, []byte{3})
	}
}

// P3.1: Truth

func TestWriteTruth(t *testing.T) {
	w := wire.NewWriter()
	for _, is := range []bool{true, false, false, true} {
		wantErr(t, "Truth", w.Truth(is), api.OK)
	}
	wantBytes(t, w, []byte{1, 0, 0, 1})
}

// P3.1: Text

func TestWriteText(t *testing.T) {
	for _, s := range []string{"", "a", "ab", "\x00", "ü→𝄞", "\xff\xfe\x80", "a\x00b", strings.Repeat("x", 255), strings.Repeat("y", 256), strings.Repeat("z", 4097)} {
		w := wire.NewWriter()
		wantErr(t, "Text", w.Text(s), api.OK)
		wantBytes(t, w, append([]byte{byte(len(s) / 256), byte(len(s) % 256)}, s...))
	}
}

func TestWriteTextsBehindEachOther(t *testing.T) {
	w := wire.NewWriter()
	for _, s := range []string{"ab", "", "", "c"} {
		wantErr(t, "Text", w.Text(s), api.OK)
	}
	wantBytes(t, w, []byte{0, 2, 'a', 'b', 0, 0, 0, 0, 0, 1, 'c'})
}

// A text of 65535 bytes may be, but with its head it is more than a writer has at most.
func TestWriteLongText(t *testing.T) {
	for _, n := range []int{api.MaxText - 3, api.MaxText - 2} {
		w := wire.NewWriter()
		s := strings.Repeat("x", n)
		wantErr(t, "Text just short enough", w.Text(s), api.OK)
		wantBytes(t, w, append([]byte{byte(n / 256), byte(n % 256)}, s...))
	}
	for _, n := range []int{longText, longText + 1, longText + 2, longText + 3, 2 * api.MaxText} {
		w := wire.NewWriter()
		wantErr(t, "Text", w.Text("a"), api.OK)
		wantErr(t, "Text too long", w.Text(strings.Repeat("x", n)), api.ErrLong)
		wantBytes(t, w, []byte{0, 1, 'a'})
		wantErr(t, "Text", w.Text("b"), api.OK)
		wantBytes(t, w, []byte{0, 1, 'a', 0, 1, 'b'})
		wantErr(t, "Text too long of an empty writer", wire.NewWriter().Text(strings.Repeat("x", n)), api.ErrLong)
	}
}

// P3.1: a writer of MaxText bytes

func TestWriteUpToTheBound(t *testing.T) {
	for size := 1; size <= 8; size++ {
		w, b := filled(t, api.MaxText-size)
		wantErr(t, "Number up to the bound", w.Number(2, size), api.OK)
		wantBytes(t, w, append(append(b, make([]byte, size-1)...), 2))
	}
	w, b := filled(t, api.MaxText-1)
	wantErr(t, "Truth up to the bound", w.Truth(false), api.OK)
	wantBytes(t, w, append(b, 0))
	for n := range 9 {
		s := strings.Repeat("s", n)
		w, b := filled(t, api.MaxText-2-n)
		wantErr(t, "Text up to the bound", w.Text(s), api.OK)
		wantBytes(t, w, append(append(b, 0, byte(n)), s...))
	}
}

func TestWriteBeyondTheBound(t *testing.T) {
	for left := range 8 {
		w, b := filled(t, api.MaxText-left)
		for size := left + 1; size <= 8; size++ {
			wantErr(t, "Number beyond the bound", w.Number(2, size), api.ErrLong)
			wantErr(t, "Number that does not fit, beyond the bound", w.Number(math.MaxUint64, min(size, 7)), api.ErrArg)
		}
		for _, size := range noSizes {
			wantErr(t, "Number of no size, beyond the bound", w.Number(2, size), api.ErrArg)
		}
		for n := max(left-1, 0); n < 9; n++ {
			wantErr(t, "Text beyond the bound", w.Text(strings.Repeat("s", n)), api.ErrLong)
		}
		wantErr(t, "Text beyond the bound", w.Text(strings.Repeat("s", longText)), api.ErrLong)
		wantBytes(t, w, b)
		for range left {
			wantErr(t, "Truth", w.Truth(true), api.OK)
			b = append(b, 1)
		}
		wantErr(t, "Truth beyond the bound", w.Truth(true), api.ErrLong)
		wantBytes(t, w, b)
	}
}

// P3.1: Bytes

func TestBytesAreNewMemory(t *testing.T) {
	w := wire.NewWriter()
	wantErr(t, "Text", w.Text("ab"), api.OK)
	first, second := w.Bytes(), w.Bytes()
	want := []byte{0, 2, 'a', 'b'}
	for i := range first {
		first[i] = '!'
	}
	_ = append(first, "!!!!"...)
	wantBytes(t, w, want)
	wantErr(t, "Number", w.Number(3, 2), api.OK)
	if !bytes.Equal(second, want) {
		t.Errorf("an answer changed: %x", second)
	}
	_ = append(second, "!!!!"...)
	wantBytes(t, w, append(want, 0, 3))
}

// P3.1, P3.2: no writer, no reader

func TestNoWriter(t *testing.T) {
	for _, w := range []*wire.Writer{nil, {}, new(wire.Writer)} {
		for range 2 {
			wantErr(t, "Number", w.Number(1, 1), api.ErrNil)
			wantErr(t, "Number that does not fit", w.Number(256, 1), api.ErrNil)
			for _, size := range noSizes {
				wantErr(t, "Number of no size", w.Number(1, size), api.ErrNil)
			}
			wantErr(t, "Truth", w.Truth(true), api.ErrNil)
			wantErr(t, "Text", w.Text("a"), api.ErrNil)
			wantErr(t, "Text too long", w.Text(strings.Repeat("x", longText+1)), api.ErrNil)
			wantBytes(t, w, nil)
		}
	}
}

func TestNoReader(t *testing.T) {
	for _, r := range []*wire.Reader{nil, {}, new(wire.Reader)} {
		wantNumber(t, r, 1, 0, api.ErrNil)
		for _, size := range noSizes {
			wantNumber(t, r, size, 0, api.ErrNil)
		}
		wantTruth(t, r, false, api.ErrNil)
		wantText(t, r, "", api.ErrNil)
		wantLeft(t, r, nil)
	}
}

// P3.2: NewReader

func TestNewReaderIsAtTheFirst(t *testing.T) {
	for _, b := range [][]byte{{7}, {0, 1}, []byte("some bytes"), bytes.Repeat([]byte{9}, 2*api.MaxText)} {
		r := wire.NewReader(b)
		wantLeft(t, r, b)
		wantNumber(t, r, 1, uint64(b[0]), api.OK)
		wantLeft(t, r, b[1:])
	}
}

func TestNewReaderOfNoBytes(t *testing.T) {
	for _, b := range [][]byte{nil, {}, make([]byte, 0, 9)} {
		r := wire.NewReader(b)
		if r == nil {
			t.Fatal("NewReader: nil")
		}
		wantLeft(t, r, nil)
		for size := 1; size <= 8; size++ {
			wantNumber(t, r, size, 0, api.ErrWire)
		}
		wantNumber(t, r, 0, 0, api.ErrArg)
		wantTruth(t, r, false, api.ErrWire)
		wantText(t, r, "", api.ErrWire)
		wantLeft(t, r, nil)
	}
}

func TestReaderKeepsACopy(t *testing.T) {
	room := []byte{0, 2, 'a', 'b', 1, 0, 0, 7, 8, 9}
	before := bytes.Clone(room)
	b := room[:7]
	r, other := wire.NewReader(b), wire.NewReader(b)
	clear(room)
	wantLeft(t, r, before[:7])
	wantText(t, r, "ab", api.OK)
	wantLeft(t, other, before[:7])
	copy(room, before)
	wantTruth(t, r, true, api.OK)
	wantText(t, r, "", api.OK)
	wantLeft(t, r, nil)
	if !bytes.Equal(room, before) {
		t.Errorf("the bytes were changed: %x", room)
	}
}

// P3.2: Number

func TestReadNumber(t *testing.T) {
	b := []byte{0xfe, 0x02, 0x03, 0x04, 0x05, 0x06, 0x07, 0x08, 0x09}
	for size, want := range []uint64{1: 0xfe, 2: 0xfe02, 3: 0xfe0203, 4: 0xfe020304, 5: 0xfe02030405, 6: 0xfe0203040506, 7: 0xfe020304050607, 8: 0xfe02030405060708} {
		if size == 0 {
			continue
		}
		r := wire.NewReader(b)
		wantNumber(t, r, size, want, api.OK)
		wantLeft(t, r, b[size:])
		just := wire.NewReader(b[:size])
		wantNumber(t, just, size, want, api.OK)
		wantLeft(t, just, nil)
		for _, c := range []byte{0, 0xff} {
			wantNumber(t, wire.NewReader(bytes.Repeat([]byte{c}, size)), size, uint64(c)/0xff*greatest(size), api.OK)
		}
	}
}

func TestReadNumberOfTooFewBytes(t *testing.T) {
	b := []byte{1, 2, 3, 4, 5, 6, 7}
	for n := range 8 {
		r := wire.NewReader(b[:n])
		for size := n + 1; size <= 8; size++ {
			wantNumber(t, r, size, 0, api.ErrWire)
			wantLeft(t, r, b[:n])
		}
		for _, c := range b[:n] {
			wantNumber(t, r, 1, uint64(c), api.OK)
		}
		wantLeft(t, r, nil)
	}
}

func TestReadNumberOfNoSize(t *testing.T) {
	b := bytes.Repeat([]byte{1}, 20)
	for _, n := range []int{0, 1, 20} {
		r := wire.NewReader(b[:n])
		for _, size := range noSizes {
			wantNumber(t, r, size, 0, api.ErrArg)
			wantLeft(t, r, b[:n])
		}
	}
}

// P3.2: Truth

func TestReadTruth(t *testing.T) {
	r := wire.NewReader([]byte{1, 0, 1, 9})
	wantTruth(t, r, true, api.OK)
	wantTruth(t, r, false, api.OK)
	wantTruth(t, r, true, api.OK)
	wantLeft(t, r, []byte{9})
}

func TestReadNoTruth(t *testing.T) {
	for c := 2; c < 256; c++ {
		r := wire.NewReader([]byte{1, byte(c), 1})
		wantTruth(t, r, true, api.OK)
		for range 2 {
			wantTruth(t, r, false, api.ErrWire)
			wantLeft(t, r, []byte{byte(c), 1})
		}
		wantNumber(t, r, 1, uint64(c), api.OK)
		wantTruth(t, r, true, api.OK)
		wantTruth(t, r, false, api.ErrWire)
	}
}

// P3.2: Text

func TestReadText(t *testing.T) {
	for _, s := range []string{"", "a", "ü→𝄞", "\xff\xfe\x80", "a\x00b", strings.Repeat("x", 255), strings.Repeat("y", 256), strings.Repeat("z", longText-1), strings.Repeat("z", longText)} {
		b := append([]byte{byte(len(s) / 256), byte(len(s) % 256)}, s...)
		just := wire.NewReader(b)
		wantText(t, just, s, api.OK)
		wantLeft(t, just, nil)
		r := wire.NewReader(append(b, 0, 1, 'k'))
		wantText(t, r, s, api.OK)
		wantText(t, r, "k", api.OK)
		wantLeft(t, r, nil)
	}
}

func TestReadTextOfTooFewBytes(t *testing.T) {
	for _, b := range [][]byte{{0}, {3}, {0, 1}, {0, 3, 'a', 'b'}, {1, 0, 'a'}, append([]byte{1, 0}, make([]byte, 255)...), append([]byte{255, 255}, make([]byte, longText-1)...)} {
		r := wire.NewReader(append([]byte{7}, b...))
		wantNumber(t, r, 1, 7, api.OK)
		for range 2 {
			wantText(t, r, "", api.ErrWire)
			wantLeft(t, r, b)
		}
		wantNumber(t, r, 1, uint64(b[0]), api.OK)
		wantLeft(t, r, b[1:])
	}
}

func TestReadTextExample(t *testing.T) {
	r := wire.NewReader([]byte{0, 3, 'a'})
	wantText(t, r, "", api.ErrWire)
	wantNumber(t, r, 2, 3, api.OK)
	wantLeft(t, r, []byte{'a'})
	wantTruth(t, r, false, api.ErrWire)
	wantLeft(t, r, []byte{'a'})
}

// P3.2: Left, Rest

func TestRestIsNewMemory(t *testing.T) {
	b := []byte{0, 1, 'a', 1, 5, 6}
	r := wire.NewReader(b)
	wantText(t, r, "a", api.OK)
	first, second := r.Rest(), r.Rest()
	for i := range first {
		first[i] = '!'
	}
	_ = append(first, "!!!!"...)
	if !bytes.Equal(second, b[3:]) {
		t.Errorf("two answers share memory: %x", second)
	}
	wantLeft(t, r, b[3:])
	wantTruth(t, r, true, api.OK)
	wantNumber(t, r, 2, 0x506, api.OK)
	wantLeft(t, r, nil)
	if !bytes.Equal(b, []byte{0, 1, 'a', 1, 5, 6}) {
		t.Errorf("the bytes were changed: %x", b)
	}
}

func TestRestStaysWhereItIs(t *testing.T) {
	r := wire.NewReader([]byte{1, 2, 3})
	for range 3 {
		wantLeft(t, r, []byte{1, 2, 3})
	}
	wantNumber(t, r, 3, 0x10203, api.OK)
	for range 3 {
		wantLeft(t, r, nil)
	}
}
