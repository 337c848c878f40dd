package length_test

import (
	"bytes"
	"math"
	"slices"
	"testing"

	"pigeonry/api"
	"pigeonry/length"
)

// mayBe are lengths at the edges, just beside them, and between them.
var mayBe = []int64{0, 1, 2, 63, 64, 126, 127, 128, 129, 255, 256, 321, 16382, 16383, 16384, 16385, 65535, 65536, 2097150, 2097151, 2097152, 2097153, 1 << 24, 1 << 27, 268435454, 268435455}

// mayNotBe are numbers that are no lengths; of some of them the lowest bits are those of one.
var mayNotBe = []int64{-1, -2, -127, -128, -129, -16384, -2097152, -268435455, -268435456, math.MinInt32, -1 << 32, math.MinInt64 + 1, math.MinInt64, 268435456, 268435457, 1<<28 + 128, 1 << 29, math.MaxInt32, 1 << 31, 1 << 32, 1<<32 + 5, 1<<35 - 1, 1 << 35, 1 << 56, 1<<62 + 1, math.MaxInt64 - 1, math.MaxInt64}

// cutLengths are beginnings of lengths that are not all there yet.
func cutLengths() [][]byte {
	return [][]byte{{0x80}, {0x81}, {0xff}, {0x80, 0x80}, {0xff, 0xff}, {0x80, 0xff}, {0xff, 0x80}, {0x80, 0x80, 0x80}, {0xff, 0xff, 0xff}, {0x80, 0x80, 0x81}, {0x81, 0x80, 0x80}}
}

// noLengths are bytes that are wrong.
func noLengths() [][]byte {
	return [][]byte{
		{0x80, 0}, {0x81, 0}, {0xff, 0}, {0xc0, 0},
		{0x80, 0x80, 0}, {0xff, 0xff, 0}, {0x80, 0x81, 0}, {0x81, 0x80, 0},
		{0x80, 0x80, 0x80, 0}, {0xff, 0xff, 0xff, 0}, {0x81, 0x82, 0x83, 0},
		{0x80, 0x80, 0x80, 0x80}, {0xff, 0xff, 0xff, 0xff}, {0x80, 0x80, 0x80, 0x81}, {0xff, 0xff, 0xff, 0x80}, {0x81, 0x80, 0x80, 0x80},
	}
}

// behinds are bytes that may stand behind others.
func behinds() [][]byte {
	return [][]byte{nil, {0}, {1}, {0x7f}, {0x80}, {0xff}, {0, 0}, {0x80, 0}, {0x80, 0x80, 0x80, 0x80}, []byte("many more bytes")}
}

// joined tells bytes, one behind the other, in memory of their own.
func joined(parts ...[]byte) []byte { return slices.Concat(parts...) }

// of tells so many bytes, none of which is like the one beside it.
func of(n int) []byte {
	b := make([]byte, n)
	for i := range b {
		b[i] = byte(i%251 + 1)
	}
	return b
}

func TestExamples(t *testing.T) {
	for n, want := range map[int64][]byte{0: {0}, 127: {0x7f}, 128: {0x80, 1}, 268435455: {0xff, 0xff, 0xff, 0x7f}} {
		wantRawIs(t, n, want, api.OK)
	}
	wantReadIs(t, []byte{0x80}, 0, 0, api.OK)
	wantReadIs(t, []byte{0x80, 0}, 0, 0, api.ErrLength)
	wantReadIs(t, []byte{0x80, 0x80, 0x80, 0x80}, 0, 0, api.ErrLength)
	wantSplitIs(t, []byte{2, 'a', 'b', 3, 'c'}, 9, [][]byte{[]byte("ab")}, []byte{3, 'c'}, api.OK)
	wantSplitIs(t, []byte{5}, 4, nil, nil, api.ErrLong)
}

// P15.1: Raw, Size, Read

func TestEdges(t *testing.T) {
	for _, c := range []struct {
		n    int64
		want []byte
	}{
		{0, []byte{0}}, {1, []byte{1}}, {126, []byte{0x7e}}, {127, []byte{0x7f}},
		{128, []byte{0x80, 1}}, {129, []byte{0x81, 1}}, {255, []byte{0xff, 1}}, {256, []byte{0x80, 2}}, {321, []byte{0xc1, 2}},
		{16382, []byte{0xfe, 0x7f}}, {16383, []byte{0xff, 0x7f}},
		{16384, []byte{0x80, 0x80, 1}}, {16385, []byte{0x81, 0x80, 1}}, {16512, []byte{0x80, 0x81, 1}},
		{2097150, []byte{0xfe, 0xff, 0x7f}}, {2097151, []byte{0xff, 0xff, 0x7f}},
		{2097152, []byte{0x80, 0x80, 0x80, 1}}, {2097153, []byte{0x81, 0x80, 0x80, 1}}, {2113536, []byte{0x80, 0x80, 0x81, 1}},
		{268435454, []byte{0xfe, 0xff, 0xff, 0x7f}}, {268435455, []byte{0xff, 0xff, 0xff, 0x7f}},
	} {
		wantRawIs(t, c.n, c.want, api.OK)
		for _, behind := range behinds() {
			wantReadIs(t, joined(c.want, behind), c.n, len(c.want), api.OK)
		}
		for cut := range len(c.want) {
			wantReadIs(t, c.want[:cut], 0, 0, api.OK)
		}
	}
}

func TestNumbersThatMayNotBe(t *testing.T) {
	for _, n := range mayNotBe {
		wantRawIs(t, n, nil, api.ErrArg)
	}
}

// How many bytes a length has changes at the edges alone.
func TestSizeOfEachByteMore(t *testing.T) {
	edges := []int64{0, 128, 16384, 2097152, 268435456}
	for i := range 4 {
		for _, n := range []int64{edges[i], edges[i] + 1, (edges[i] + edges[i+1]) / 2, edges[i+1] - 2, edges[i+1] - 1} {
			if got := length.Size(n); got != i+1 {
				t.Errorf("Size(%d): %d, want %d", n, got, i+1)
			}
		}
	}
	if got := length.Size(268435456); got != 0 {
		t.Errorf("Size(268435456): %d", got)
	}
}

func TestReadOfNothing(t *testing.T) {
	wantReadIs(t, nil, 0, 0, api.OK)
	wantReadIs(t, []byte{}, 0, 0, api.OK)
}

func TestReadOfWhatIsNotAllThere(t *testing.T) {
	for _, b := range cutLengths() {
		wantReadIs(t, b, 0, 0, api.OK)
	}
	for a := 0x80; a < 0x100; a++ {
		wantReadIs(t, []byte{byte(a)}, 0, 0, api.OK)
		for b := 0x80; b < 0x100; b++ {
			wantReadIs(t, []byte{byte(a), byte(b)}, 0, 0, api.OK)
			wantReadIs(t, []byte{byte(a), byte(b), byte(a)}, 0, 0, api.OK)
		}
	}
}

func TestReadOfWhatIsWrong(t *testing.T) {
	for _, b := range noLengths() {
		for _, behind := range behinds() {
			wantReadIs(t, joined(b, behind), 0, 0, api.ErrLength)
		}
	}
	for a := 0x80; a < 0x100; a++ {
		for _, b := range [][]byte{{byte(a), 0}, {0x80, byte(a), 0}, {0xff, byte(a), 0}, {0x80, 0x80, byte(a), 0}, {0xff, 0xff, byte(a), 0}, {0x80, 0x80, 0x80, byte(a)}, {0xff, 0xff, 0xff, byte(a)}, {byte(a), 0x80, 0x80, 0x80}} {
			for _, behind := range behinds() {
				wantReadIs(t, joined(b, behind), 0, 0, api.ErrLength)
			}
		}
	}
}

// A byte of noughts ahead of the last one is none too many.
func TestReadOfNoughtsWithin(t *testing.T) {
	wantReadIs(t, []byte{0x80, 1}, 128, 2, api.OK)
	wantReadIs(t, []byte{0x80, 0x80, 1}, 16384, 3, api.OK)
	wantReadIs(t, []byte{0x81, 0x80, 1}, 16385, 3, api.OK)
	wantReadIs(t, []byte{0x80, 0x80, 0x80, 1}, 2097152, 4, api.OK)
	wantReadIs(t, []byte{0x80, 0x80, 0x80, 0x40}, 1<<27, 4, api.OK)
	wantReadIs(t, []byte{0, 0}, 0, 1, api.OK)
	wantReadIs(t, []byte{1, 0x80, 0}, 1, 1, api.OK)
}

// P15.2: All

func TestAllOfNone(t *testing.T) {
	for _, n := range [][]int64{nil, {}} {
		if b, e := length.All(n...); len(b) != 0 || e != api.OK {
			t.Errorf("All of none: %x %v", b, e)
		}
	}
}

func TestAllOfMany(t *testing.T) {
	b, e := length.All(0, 1, 127, 128, 16383, 16384, 2097151, 2097152, 268435455)
	want := []byte{0, 1, 0x7f, 0x80, 1, 0xff, 0x7f, 0x80, 0x80, 1, 0xff, 0xff, 0x7f, 0x80, 0x80, 0x80, 1, 0xff, 0xff, 0xff, 0x7f}
	if !bytes.Equal(b, want) || e != api.OK {
		t.Errorf("All: %x %v, want %x", b, e, want)
	}
	wantAll(t, mayBe...)
	for _, n := range mayBe {
		wantAll(t, slices.Repeat([]int64{n}, 1000)...)
		for _, m := range mayBe {
			wantAll(t, n, m)
			wantAll(t, m, n, m)
		}
	}
}

func TestAllOfOneThatMayNotBe(t *testing.T) {
	for _, n := range mayNotBe {
		for at := range len(mayBe) + 1 {
			if b, e := length.All(slices.Insert(slices.Clone(mayBe), at, n)...); len(b) != 0 || e != api.ErrArg {
				t.Errorf("All, %d as number %d: %x %v, want %v", n, at, b, e, api.ErrArg)
			}
		}
	}
	if b, e := length.All(mayNotBe...); len(b) != 0 || e != api.ErrArg {
		t.Errorf("All of those that may not be: %x %v", b, e)
	}
}

// P15.2: Split

func TestSplitOfNothing(t *testing.T) {
	for _, most := range mayBe {
		wantSplitIs(t, nil, most, nil, nil, api.OK)
		wantSplitIs(t, []byte{}, most, nil, nil, api.OK)
	}
}

func TestSplitByWhatMayNotBe(t *testing.T) {
	for _, most := range mayNotBe {
		for _, b := range append(noLengths(), nil, []byte{0}, []byte{2, 'a', 'b'}, []byte{5}, []byte{0x80}, []byte{0, 0x80, 0}) {
			wantSplitIs(t, b, most, nil, nil, api.ErrArg)
		}
	}
}

func TestSplitOfOnePart(t *testing.T) {
	for _, n := range []int{0, 1, 2, 126, 127, 128, 129, 16383, 16384, 2097151, 2097152} {
		part := of(n)
		b := joined(toldRaw(int64(n)), part)
		for _, most := range []int64{int64(n), int64(n) + 1, greatest} {
			wantSplitIs(t, b, most, [][]byte{part}, nil, api.OK)
			for _, behind := range cutLengths() {
				wantSplitIs(t, joined(b, behind), most, [][]byte{part}, behind, api.OK)
			}
		}
		wantSplitIs(t, joined(b, []byte{0}), int64(n), [][]byte{part, nil}, nil, api.OK)
		wantSplitIs(t, joined(b, []byte{1}), max(int64(n), 1), [][]byte{part}, []byte{1}, api.OK)
	}
}

func TestSplitOfPartsWithoutBytes(t *testing.T) {
	for _, count := range []int{1, 2, 3, 1000} {
		for _, most := range []int64{0, 1, greatest} {
			wantSplitIs(t, make([]byte, count), most, make([][]byte, count), nil, api.OK)
		}
	}
	wantSplitIs(t, []byte{0, 1, 'a', 0, 0, 2, 'b', 'c', 0}, 2, [][]byte{nil, []byte("a"), nil, nil, []byte("bc"), nil}, nil, api.OK)
}

// Bytes within a part are just bytes, also those that would be lengths, or wrong ones.
func TestSplitOfPartsOfAnyBytes(t *testing.T) {
	for _, part := range append(append(noLengths(), cutLengths()...), []byte{0}, []byte{9}, []byte{1, 1, 1}) {
		b := joined(toldRaw(int64(len(part))), part)
		wantSplitIs(t, joined(b, b, b[:1]), 4, [][]byte{part, part}, b[:1], api.OK)
	}
}

func TestSplitOfManyParts(t *testing.T) {
	var b []byte
	var want [][]byte
	for i := range 5000 {
		part := of(i % 301)
		b, want = append(append(b, toldRaw(int64(len(part)))...), part...), append(want, part)
	}
	wantSplitIs(t, b, 300, want, nil, api.OK)
	wantSplitIs(t, b, 299, nil, nil, api.ErrLong)
	wantSplitIs(t, joined(b, []byte{7, 'a'}), 300, want, []byte{7, 'a'}, api.OK)
	wantSplitIs(t, joined(b, []byte{0x80, 0}), 300, nil, nil, api.ErrLength)
}

// Parts that are cut at each place: what is left begins at the length of the part that is not all there.
func TestSplitOfWhatIsCut(t *testing.T) {
	sizes := []int{0, 1, 3, 127, 128, 130, 0, 16384, 2}
	var b []byte
	var all [][]byte
	ends := []int{0}
	for _, n := range sizes {
		all = append(all, of(n))
		b = joined(b, toldRaw(int64(n)), of(n))
		ends = append(ends, len(b))
	}
	for cut := range len(b) + 1 {
		there := 0
		for there < len(sizes) && ends[there+1] <= cut {
			there++
		}
		for _, most := range []int64{16384, greatest} {
			wantSplitIs(t, b[:cut], most, all[:there], b[ends[there]:cut], api.OK)
		}
	}
}

// The same of a length of four bytes, whose part is cut in its length, right behind it, in its midst and just ahead of its end.
func TestSplitOfALongPartThatIsCut(t *testing.T) {
	b := joined([]byte{1, 'x'}, toldRaw(2097152), of(2097152))
	for _, cut := range []int{2, 3, 4, 5, 6, 7, 1000, 2097152, len(b) - 1} {
		wantSplitIs(t, b[:cut], 2097152, [][]byte{{'x'}}, b[2:cut], api.OK)
	}
	wantSplitIs(t, b, 2097152, [][]byte{{'x'}, b[6:]}, nil, api.OK)
}

func TestSplitAboutTheNumber(t *testing.T) {
	for _, most := range []int64{0, 1, 2, 127, 128, 300, 16383, 16384} {
		at, above := joined(toldRaw(most), of(int(most))), joined(toldRaw(most+1), of(int(most)+1))
		wantSplitIs(t, at, most, [][]byte{of(int(most))}, nil, api.OK)
		wantSplitIs(t, above, most, nil, nil, api.ErrLong)
		wantSplitIs(t, joined(at, above), most, nil, nil, api.ErrLong)
		wantSplitIs(t, joined(above, at), most, nil, nil, api.ErrLong)
		wantSplitIs(t, joined(above, at[:1]), most, nil, nil, api.ErrLong)
	}
}

// A length above the number is refused as soon as it is there, not ahead of that.
func TestSplitAboutTheNumberOfWhatIsNotAllThere(t *testing.T) {
	for _, most := range mayBe {
		at := toldRaw(most)
		if most > 0 {
			wantSplitIs(t, at, most, nil, at, api.OK)
			wantSplitIs(t, joined([]byte{0}, at), most, [][]byte{nil}, at, api.OK)
		}
		for _, n := range mayBe {
			if n <= most {
				continue
			}
			above := toldRaw(n)
			wantSplitIs(t, above, most, nil, nil, api.ErrLong)
			wantSplitIs(t, joined([]byte{0, 0}, above), most, nil, nil, api.ErrLong)
			wantSplitIs(t, joined(above, []byte{0x80}), most, nil, nil, api.ErrLong)
			wantSplitIs(t, above[:len(above)-1], most, nil, above[:len(above)-1], api.OK)
		}
	}
}

// Of what is refused nothing is told, also not of parts that are right ahead of it.
func TestSplitOfWhatGoesWrong(t *testing.T) {
	right := []byte{2, 'a', 'b', 0, 1, 'c'}
	for _, b := range noLengths() {
		for _, behind := range behinds() {
			for _, most := range []int64{0, 1, 2, greatest} {
				wantSplitIs(t, joined(b, behind), most, nil, nil, api.ErrLength)
				wantSplitIs(t, joined(right, b, behind), most, nil, nil, api.ErrLength)
				wantSplitIs(t, joined(right, right, b, behind, right), most, nil, nil, api.ErrLength)
			}
		}
	}
	wantSplitIs(t, joined(right, []byte{9}), 8, nil, nil, api.ErrLong)
	wantSplitIs(t, joined(right, []byte{9}, right), 8, nil, nil, api.ErrLong)
	wantSplitIs(t, joined(right, []byte{9}, of(9), right), 8, nil, nil, api.ErrLong)
}

// A wrong length counts for more than one above the number, wherever it stands; a number that may not be counts for more than both.
func TestSplitNamesTheFirstError(t *testing.T) {
	long := joined([]byte{3}, of(3))
	for _, wrong := range noLengths() {
		wantSplitIs(t, joined(wrong, long), 2, nil, nil, api.ErrLength)
		wantSplitIs(t, joined(long, wrong), 2, nil, nil, api.ErrLength)
		wantSplitIs(t, joined(long, []byte{0}, long, wrong), 2, nil, nil, api.ErrLength)
		wantSplitIs(t, joined(long, wrong), 3, nil, nil, api.ErrLength)
		wantSplitIs(t, joined(long, wrong), -1, nil, nil, api.ErrArg)
		wantSplitIs(t, joined(wrong, long), greatest+1, nil, nil, api.ErrArg)
	}
	wantSplitIs(t, joined([]byte{9}, []byte{0x80, 0}), 2, nil, nil, api.ErrLong) // what is wrong stands within the part
}

// What is answered is new, and what is handed in stays as it is.

func TestRawIsNew(t *testing.T) {
	for _, n := range mayBe {
		a, _ := length.Raw(n)
		b, _ := length.All(n)
		c, _ := length.Raw(n)
		clear(a[:cap(a)])
		clear(b[:cap(b)])
		if !bytes.Equal(c, toldRaw(n)) {
			t.Errorf("Raw(%d) hangs on others: %x", n, c)
		}
		wantRaw(t, n)
	}
}

func TestAllLeavesItsLengths(t *testing.T) {
	room := append(slices.Clone(mayBe), -1, 5, 6)
	kept := slices.Clone(room)
	b, _ := length.All(room[:len(mayBe)]...)
	length.All(room...)
	if !slices.Equal(room, kept) {
		t.Errorf("All changed its lengths: %d", room)
	}
	want, _ := toldAll(mayBe...)
	clear(room)
	if !bytes.Equal(b, want) {
		t.Errorf("All hangs on its lengths: %x", b)
	}
}

func TestReadLeavesItsBytes(t *testing.T) {
	for _, b := range append(append(noLengths(), cutLengths()...), []byte{1}, []byte{0x80, 1, 5}, []byte{0xff, 0xff, 0xff, 0x7f, 9}) {
		kept := slices.Clone(b)
		for to := range len(b) + 1 {
			length.Read(b[:to])
			length.Split(b[:to], 1)
			length.Split(b[:to], -1)
		}
		if !bytes.Equal(b, kept) {
			t.Errorf("bytes were changed: %x, they were %x", b, kept)
		}
	}
}

func TestSplitIsApart(t *testing.T) {
	b := []byte{2, 'a', 'b', 0, 3, 'c', 'd', 'e', 0, 4, 'f', 'g', 'x', 'y', 'z'}
	kept := slices.Clone(b)
	want, wantLeft := [][]byte{[]byte("ab"), nil, []byte("cde"), nil}, []byte{4, 'f', 'g'}
	given := b[:12] // with spare room behind it
	parts, left, _ := length.Split(given, 9)
	other, otherLeft, _ := length.Split(given, 9)
	again := slices.Clone(parts)
	for i := range again {
		again[i] = append(again[i], "!!!!!!!!"...) // fills what room is behind each part
	}
	if _ = append(left, "!!!!!!!!"...); !bytes.Equal(b, kept) {
		t.Errorf("the bytes hang on what was told: %x", b)
	}
	if !slices.EqualFunc(parts, want, bytes.Equal) || !bytes.Equal(left, wantLeft) {
		t.Errorf("parts hang on each other: %q, left %x", parts, left)
	}
	for i := range parts {
		clear(parts[i])
	}
	clear(parts[:cap(parts)])
	clear(left)
	if !bytes.Equal(b, kept) || !slices.EqualFunc(other, want, bytes.Equal) || !bytes.Equal(otherLeft, wantLeft) {
		t.Errorf("bytes %x, other parts %q, left %x, hang on parts", b, other, otherLeft)
	}
	clear(b)
	if !slices.EqualFunc(other, want, bytes.Equal) || !bytes.Equal(otherLeft, wantLeft) {
		t.Errorf("parts hang on the bytes: %q, left %x", other, otherLeft)
	}
}

// What is left is apart, too, where it is all that came.
func TestLeftIsApart(t *testing.T) {
	for _, given := range [][]byte{{0x80}, {9, 'a', 'b'}, {0xff, 0xff, 0xff}} {
		b, kept := slices.Clone(given), slices.Clone(given)
		_, left, _ := length.Split(b, 9)
		clear(b)
		if !bytes.Equal(left, kept) {
			t.Errorf("Split(%x): left %x hangs on the bytes", kept, left)
		}
		clear(left[:cap(left)])
		wantSplitIs(t, kept, 9, nil, given, api.OK)
	}
}

// P15.3

func TestReadOfRaw(t *testing.T) {
	for _, n := range mayBe {
		b, e := length.Raw(n)
		if e != api.OK || len(b) != length.Size(n) {
			t.Errorf("Raw(%d): %x %v, its size %d", n, b, e, length.Size(n))
		}
		for _, behind := range behinds() {
			wantReadIs(t, joined(b, behind), n, len(b), api.OK)
		}
	}
}

func TestReadOfRawWithAnyBytesBehind(t *testing.T) {
	for seed := range 20000 {
		d := dice(seed)
		n := d.number(1 << 20)
		b, e := length.Raw(n)
		if e != api.OK {
			continue
		}
		behind := make([]byte, d.roll(10))
		for i := range behind {
			behind[i] = byte(d.roll(256))
		}
		wantReadIs(t, joined(b, behind), n, len(b), api.OK)
	}
}

// Lengths, one behind the other, are read again one by one.
func TestReadOfAll(t *testing.T) {
	b, e := length.All(mayBe...)
	if e != api.OK {
		t.Fatal(e)
	}
	for _, n := range mayBe {
		wantReadIs(t, b, n, length.Size(n), api.OK)
		b = b[length.Size(n):]
	}
	if len(b) > 0 {
		t.Errorf("%x stands behind all", b)
	}
}

// No length's bytes begin with those of another one. Where those of all lengths stand in the order of bytes, one that began so would stand right behind it.
func TestOtherLengthsBeginOtherwise(t *testing.T) {
	var all [][]byte
	add := func(n int64) {
		b, e := length.Raw(n)
		if e != api.OK {
			t.Fatalf("Raw(%d): %v", n, e)
		}
		all = append(all, b)
	}
	for n := range int64(1 << 17) {
		add(n)
	}
	for n := int64(1 << 17); n < greatest-1<<14; n += 4099 {
		add(n)
	}
	for n := greatest - int64(1<<14); n <= greatest; n++ {
		add(n)
	}
	slices.SortFunc(all, bytes.Compare)
	for i, b := range all[1:] {
		if bytes.HasPrefix(b, all[i]) {
			t.Errorf("%x begins with %x", b, all[i])
		}
	}
	for _, n := range mayBe {
		for _, m := range mayBe {
			a, _ := length.Raw(n)
			b, _ := length.Raw(m)
			if n != m && bytes.HasPrefix(b, a) {
				t.Errorf("%x, of %d, begins with %x, of %d", b, m, a, n)
			}
		}
	}
}

// What is read once is laid as the same bytes again.
func TestRawOfRead(t *testing.T) {
	for a := range 256 {
		for b := range 256 {
			for _, c := range []byte{0, 1, 0x7f, 0x80, 0xff} {
				for _, d := range []byte{0, 1, 0x7f, 0x80, 0xff} {
					given := []byte{byte(a), byte(b), c, d}
					n, size, e := length.Read(given)
					if e != api.OK {
						continue
					}
					if back, _ := length.Raw(n); size == 0 || !bytes.Equal(back, given[:size]) {
						t.Fatalf("Read(%x): %d in %d, whose bytes are %x", given, n, size, back)
					}
				}
			}
		}
	}
}

func TestSplitOfLaidParts(t *testing.T) {
	for seed := range 2000 {
		d := dice(seed)
		var b []byte
		var want [][]byte
		for range d.roll(6) {
			part := of(pick(&d, 0, 1, 127, 128, d.roll(300), d.roll(20000)))
			head, e := length.Raw(int64(len(part)))
			if e != api.OK {
				t.Fatal(e)
			}
			b, want = joined(b, head, part), append(want, part)
		}
		wantSplitIs(t, b, 20000, want, nil, api.OK)
	}
}
