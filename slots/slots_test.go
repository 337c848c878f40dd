package slots_test

import (
	"bytes"
	"fmt"
	"math"
	"slices"
	"strconv"
	"strings"
	"testing"

	"pigeonry/api"
	"pigeonry/slots"
)

const (
	leaf   = api.PageLeaf
	branch = api.PageBranch
)

// noKinds have no cells. One comes round to a leaf's, if it is cut to 32 or to 8 bits.
var noKinds = []api.PageKind{api.PageNone, api.PageMeta, api.PageChain, api.PageFree, api.PageFree + 1, 7, 256 + leaf, 1<<32 + leaf, 1<<32 + branch, -1, -leaf, -branch, math.MaxInt, math.MinInt}

func of(n int) string { return strings.Repeat("k", n) }

func text(key, text string) api.Cell { return api.Cell{Key: key, Text: text} }

func long(key string, page, size int64) api.Cell {
	return api.Cell{Key: key, Long: true, Page: page, Size: size}
}

func down(key string, page int64) api.Cell { return api.Cell{Key: key, Page: page} }

func cells(l ...api.Cell) []api.Cell { return l }

func alike(a, b []api.Cell) bool { return slices.Equal(a, b) }

// brief tells the beginning of a list.
func brief(l []api.Cell) string {
	told := fmt.Sprint(l)
	return strconv.QuoteToASCII(told[:min(len(told), 200)])
}

func short(k api.PageKind, l []api.Cell) string { return fmt.Sprintf("%d, %s", k, brief(l)) }

// wantMay asks Check, Size and Raw of cells that may be and have so many bytes.
func wantMay(t *testing.T, k api.PageKind, l []api.Cell, size int) {
	t.Helper()
	if e := slots.Check(k, l); e != api.OK {
		t.Errorf("Check(%s): %v", short(k, l), e)
	}
	if n, e := slots.Size(k, l); n != size || e != api.OK {
		t.Errorf("Size(%s): %d %v, want %d", short(k, l), n, e, size)
	}
	b, e := slots.Raw(k, l)
	if size > api.MaxRoom {
		if b != nil || e != api.ErrFull {
			t.Errorf("Raw(%s): %d bytes, %v; want none, %v", short(k, l), len(b), e, api.ErrFull)
		}
		return
	}
	if len(b) != size || e != api.OK {
		t.Errorf("Raw(%s): %d bytes, %v; want %d", short(k, l), len(b), e, size)
	}
	wantParse(t, k, b, l)
}

// wantMayNot asks all that refuse cells that may not be.
func wantMayNot(t *testing.T, k api.PageKind, l []api.Cell) {
	t.Helper()
	if e := slots.Check(k, l); e != api.ErrArg {
		t.Errorf("Check(%s): %v, want %v", short(k, l), e, api.ErrArg)
	}
	if n, e := slots.Size(k, l); n != 0 || e != api.ErrArg {
		t.Errorf("Size(%s): %d %v, want %v", short(k, l), n, e, api.ErrArg)
	}
	if b, e := slots.Raw(k, l); b != nil || e != api.ErrArg {
		t.Errorf("Raw(%s): %x %v, want %v", short(k, l), b, e, api.ErrArg)
	}
	wantNoHalves(t, k, l)
}

func wantNoHalves(t *testing.T, k api.PageKind, l []api.Cell) {
	t.Helper()
	if left, right, e := slots.Halve(k, l); left != nil || right != nil || e != api.ErrArg {
		t.Errorf("Halve(%s): %v %v %v, want %v", short(k, l), left, right, e, api.ErrArg)
	}
}

func wantRaw(t *testing.T, k api.PageKind, l []api.Cell, want ...byte) {
	t.Helper()
	wantMay(t, k, l, len(want))
	if b, e := slots.Raw(k, l); !bytes.Equal(b, want) || e != api.OK {
		t.Errorf("Raw(%s): %x %v, want %x", short(k, l), b, e, want)
	}
}

func wantParse(t *testing.T, k api.PageKind, b []byte, want []api.Cell) {
	t.Helper()
	if l, e := slots.Parse(k, b); !alike(l, want) || e != api.OK {
		t.Errorf("Parse(%d, %.80x): %s %v, want %s", k, b, brief(l), e, brief(want))
	}
}

func wantNoParse(t *testing.T, k api.PageKind, b []byte, want api.Errno) {
	t.Helper()
	if l, e := slots.Parse(k, b); l != nil || e != want {
		t.Errorf("Parse(%d, %.80x): %s %v, want %v", k, b, brief(l), e, want)
	}
}

// P5.1: Check, Size, Raw

func TestNoCells(t *testing.T) {
	for _, none := range [][]api.Cell{nil, {}, cells(text("a", "b"))[:0]} {
		wantRaw(t, leaf, none, 0, 0)
		wantMayNot(t, branch, none)
	}
}

func TestKinds(t *testing.T) {
	for _, k := range noKinds {
		for _, l := range [][]api.Cell{nil, cells(text("a", "b")), cells(down("a", 7)), cells(down("a", 7), down("b", 8)), cells(api.Cell{}, api.Cell{})} {
			wantMayNot(t, k, l)
		}
	}
	wantMayNot(t, branch, cells(text("a", "b")))
	wantMayNot(t, branch, cells(text("a", "")))
	wantMayNot(t, branch, cells(long("a", 7, 100)))
	wantMayNot(t, leaf, cells(down("a", 7)))
}

func TestKeysOfALeaf(t *testing.T) {
	for n := 1; n <= api.MaxKey; n++ {
		wantMay(t, leaf, cells(text(of(n), "")), 7+n)
		wantMay(t, leaf, cells(long(of(n), 7, 100)), 14+n)
	}
	for _, n := range []int{0, api.MaxKey + 1, 255, 256, 257, 1000, 1 << 16, 1<<16 + 1} {
		wantMayNot(t, leaf, cells(text(of(n), "")))
		wantMayNot(t, leaf, cells(long(of(n), 7, 100)))
		wantMayNot(t, leaf, cells(text(of(n), ""), text("z", "")))
	}
	wantMayNot(t, leaf, cells(text("a", ""), text(of(api.MaxKey+1), "")))
}

func TestKeysOfABranch(t *testing.T) {
	for n := range api.MaxKey + 1 {
		wantMay(t, branch, cells(down(of(n), 7)), 9+n)
	}
	for _, n := range []int{api.MaxKey + 1, 255, 256, 257, 1000, 1 << 16, 1<<16 + 1} {
		wantMayNot(t, branch, cells(down(of(n), 7)))
	}
	wantMay(t, branch, cells(down("", 7), down("a", 7)), 17)
	wantMayNot(t, branch, cells(down("", 7), down("", 8)))
	wantMayNot(t, branch, cells(down("", 7), down(of(api.MaxKey+1), 8)))
}

func TestKeysRise(t *testing.T) {
	for _, c := range []struct {
		keys  []string
		rises bool
	}{
		{[]string{"a", "b"}, true},
		{[]string{"a", "a\x00"}, true},
		{[]string{"a", "aa", "ab", "b"}, true},
		{[]string{"\x00", "\x01", "\x7f", "\x80", "\xff", "\xff\xff"}, true},
		{[]string{"Z", "a", "é", "\xff"}, true},
		{[]string{"10", "9"}, true},
		{[]string{"a", "a"}, false},
		{[]string{"b", "a"}, false},
		{[]string{"aa", "a"}, false},
		{[]string{"\x80", "\x7f"}, false},
		{[]string{"a", "b", "b"}, false},
		{[]string{"a", "a", "b"}, false},
		{[]string{"a", "c", "b"}, false},
		{[]string{"c", "a", "b"}, false},
		{[]string{"a", "b", "a"}, false},
		{[]string{"9", "10"}, false},
	} {
		var one, other []api.Cell
		size, more := 2, 0
		for i, key := range c.keys {
			one = append(one, text(key, "x"))
			other = append(other, down(key, int64(i+1)))
			size += 6 + len(key)
			more++
		}
		if !c.rises {
			wantMayNot(t, leaf, one)
			wantMayNot(t, branch, other)
			continue
		}
		wantMay(t, leaf, one, size)
		wantMay(t, branch, other, size+more)
	}
}

func TestTexts(t *testing.T) {
	for n := range api.MaxInline + 1 {
		wantMay(t, leaf, cells(text("a", of(n))), 8+n)
	}
	for _, n := range []int{api.MaxInline + 1, 255, 256, 257, 1000, 1 << 16, 1<<16 + 1} {
		wantMayNot(t, leaf, cells(text("a", of(n))))
		wantMayNot(t, leaf, cells(text("a", ""), text("b", of(n)), text("c", "")))
	}
	wantMay(t, leaf, cells(text("\xff\x00", "\x00\xff\xc0\x80")), 13)
}

func TestLongCells(t *testing.T) {
	for _, page := range []int64{1, 2, 255, 256, api.MaxPages - 2, api.MaxPages - 1} {
		for _, size := range []int64{api.MaxInline + 1, 62, 255, 256, api.MaxValue - 1, api.MaxValue} {
			wantMay(t, leaf, cells(long("a", page, size)), 15)
		}
	}
	for _, page := range []int64{0, -1, api.MaxPages, api.MaxPages + 1, 1<<32 + 7, -1<<32 + 7, math.MaxInt64, math.MinInt64} {
		wantMayNot(t, leaf, cells(long("a", page, 100)))
		wantMayNot(t, leaf, cells(text("A", ""), long("a", page, 100)))
	}
	for _, size := range []int64{api.MaxInline, 59, 1, 0, -1, api.MaxValue + 1, 1<<32 + 100, -1<<32 + 100, math.MaxInt64, math.MinInt64} {
		wantMayNot(t, leaf, cells(long("a", 7, size)))
		wantMayNot(t, leaf, cells(text("A", ""), long("a", 7, size)))
	}
}

func TestWhatALeafsCellHasNot(t *testing.T) {
	for _, c := range []api.Cell{
		{Key: "a", Text: "x", Long: true, Page: 7, Size: 100},
		{Key: "a", Text: of(61), Long: true, Page: 7, Size: 61},
		{Key: "a", Text: "x", Page: 7},
		{Key: "a", Text: "x", Size: 100},
		{Key: "a", Text: "x", Size: 1},
		{Key: "a", Text: "x", Page: 7, Size: 100},
		{Key: "a", Page: 7, Size: 100},
		{Key: "a", Page: -1},
		{Key: "a", Size: -1},
		{Key: "a", Long: true},
		{Key: "a", Text: "x", Long: true},
		{},
	} {
		wantMayNot(t, leaf, cells(c))
		wantMayNot(t, leaf, cells(text("A", ""), c, text("b", "")))
	}
}

func TestWhatABranchsCellHasNot(t *testing.T) {
	for _, c := range []api.Cell{
		{Key: "a", Text: "x", Page: 7},
		{Key: "a", Page: 7, Size: 100},
		{Key: "a", Page: 7, Size: -1},
		{Key: "a", Page: 7, Long: true},
		{Key: "a", Page: 7, Long: true, Size: 100},
		{Key: "a"},
		{Key: "a", Page: 0, Size: 7},
		{},
	} {
		wantMayNot(t, branch, cells(c))
		wantMayNot(t, branch, cells(down("A", 1), c, down("b", 2)))
	}
	for _, page := range []int64{1, 2, 255, 256, api.MaxPages - 1} {
		wantMay(t, branch, cells(down("a", page)), 10)
	}
	for _, page := range []int64{0, -1, -7, api.MaxPages, 1<<32 + 7, -1<<32 + 7, math.MaxInt64, math.MinInt64} {
		wantMayNot(t, branch, cells(down("a", page)))
	}
}

func TestRawByteByByte(t *testing.T) {
	wantRaw(t, leaf, cells(text("a", "x")), 0, 1, 0, 4, 1, 'a', 0, 1, 'x')
	wantRaw(t, leaf, cells(text("a", "")), 0, 1, 0, 4, 1, 'a', 0, 0)
	wantRaw(t, leaf, cells(long("ab", 0x0123, 0x0fed)), 0, 1, 0, 4, 2, 'a', 'b', 1, 0, 0, 1, 0x23, 0, 0, 0x0f, 0xed)
	wantRaw(t, leaf, cells(text("a", "xyz"), long("b\xff", 4095, 4096), text("c", "")),
		0, 3, 0, 8, 0, 15, 0, 27,
		1, 'a', 0, 3, 'x', 'y', 'z',
		2, 'b', 0xff, 1, 0, 0, 0x0f, 0xff, 0, 0, 0x10, 0,
		1, 'c', 0, 0)
	wantRaw(t, branch, cells(down("", 7)), 0, 1, 0, 4, 0, 0, 0, 0, 7)
	wantRaw(t, branch, cells(down("", 0x0102), down("b", 4095), down("ba", 1)),
		0, 3, 0, 8, 0, 13, 0, 19,
		0, 0, 0, 1, 2,
		1, 'b', 0, 0, 0x0f, 0xff,
		2, 'b', 'a', 0, 0, 0, 1)
}

// filled tells cells of just so many bytes, in a leaf and in a branch.
func filled(size int) (inLeaf, inBranch []api.Cell) {
	for i, left := 0, size-2; left > 0; i++ {
		n := min(left, 70)
		if left > 70 && left < 80 { // what would be left then were too little
			n = 40
		}
		key := string(rune('a' + i))
		inLeaf = append(inLeaf, text(key, of(min(n-6, api.MaxInline))))
		if more := n - 6 - api.MaxInline; more > 0 {
			inLeaf[i].Key += of(more)
		}
		left -= n
	}
	for i, left := 0, size-2; left > 0; i++ {
		n := min(left, 50)
		if left > 50 && left < 60 {
			n = 30
		}
		inBranch = append(inBranch, down(string(rune('a'+i))+of(n-8), int64(i+1)))
		left -= n
	}
	return inLeaf, inBranch
}

func TestJustMaxRoomAndOneMore(t *testing.T) {
	for size := 100; size < 600; size++ {
		a, b := filled(size)
		wantMay(t, leaf, a, size)
		wantMay(t, branch, b, size)
	}
}

func TestFullBeyondWhatTwoBytesTell(t *testing.T) {
	var a, b []api.Cell
	for i := range 1<<16 + 1 {
		key := fmt.Sprintf("%08d", i)
		a, b = append(a, text(key, "")), append(b, down(key, 7))
	}
	wantMay(t, leaf, a, 2+len(a)*13)
	wantMay(t, branch, b, 2+len(b)*15)
	wantMayNot(t, leaf, append(a, text("", "")))
	wantMayNot(t, branch, append(b, down("", 7)))
}

// ErrArg is told ahead of ErrFull.
func TestWhatMayNotBeAndDoesNotFit(t *testing.T) {
	a, b := filled(400)
	wantMayNot(t, leaf, append(a, a[0]))
	wantMayNot(t, branch, append(b, b[0]))
	wantMayNot(t, leaf, b)
	wantMayNot(t, branch, a)
	wantMayNot(t, api.PageMeta, a)
}

// P5.3: a cell takes at most 113 bytes.
func TestTheGreatestCell(t *testing.T) {
	wantMay(t, leaf, cells(text(of(api.MaxKey), of(api.MaxInline))), 2+113)
	wantMay(t, leaf, cells(text(of(api.MaxKey), of(api.MaxInline)), text(of(api.MaxKey-1)+"l", of(api.MaxInline))), 2+2*113)
	wantMay(t, leaf, cells(long(of(api.MaxKey), api.MaxPages-1, api.MaxValue)), 2+60)
	wantMay(t, branch, cells(down(of(api.MaxKey), api.MaxPages-1)), 2+55)
}

// P5.1: Parse

func raw(t *testing.T, k api.PageKind, l ...api.Cell) []byte {
	t.Helper()
	b, e := slots.Raw(k, l)
	if e != api.OK {
		t.Fatalf("Raw(%s): %v", short(k, l), e)
	}
	return b
}

func TestParseOfNone(t *testing.T) {
	wantParse(t, leaf, []byte{0, 0}, nil)
	wantNoParse(t, branch, []byte{0, 0}, api.ErrCells)
	for _, b := range [][]byte{nil, {}, {0}, {1}, {0, 1}, {0, 0, 0}, {0, 1, 0}, {0, 1, 0, 4}, {0xff, 0xff}} {
		wantNoParse(t, leaf, b, api.ErrCells)
		wantNoParse(t, branch, b, api.ErrCells)
	}
}

func TestParseOfNoKind(t *testing.T) {
	for _, k := range noKinds {
		for _, b := range [][]byte{nil, {0, 0}, {9}, raw(t, leaf, text("a", "x")), raw(t, branch, down("a", 7)), make([]byte, 1000)} {
			wantNoParse(t, k, b, api.ErrArg)
		}
	}
}

// wholes are bytes of cells, by their Kinds.
func wholes(t *testing.T) map[api.PageKind][][]byte {
	a, b := filled(api.MaxRoom)
	return map[api.PageKind][][]byte{
		leaf: {
			raw(t, leaf, text("a", "")),
			raw(t, leaf, text("a", "x"), text("ab", of(60)), long("b", 7, 100)),
			raw(t, leaf, long("a", 4095, 4096), long("b", 1, 61)),
			raw(t, leaf, a...),
		},
		branch: {
			raw(t, branch, down("", 7)),
			raw(t, branch, down("a", 7), down(of(48), 4095)),
			raw(t, branch, b...),
		},
	}
}

func TestTooFewOrTooManyBytes(t *testing.T) {
	for k, all := range wholes(t) {
		for _, b := range all {
			for n := range len(b) {
				wantNoParse(t, k, b[:n], api.ErrCells)
			}
			for _, behind := range [][]byte{{0}, {1}, {0, 0}, make([]byte, 100), b} {
				wantNoParse(t, k, slices.Concat(b, behind), api.ErrCells)
			}
			wantNoParse(t, k, slices.Concat([]byte{0}, b), api.ErrCells)
		}
	}
}

func TestCountsThatAreNot(t *testing.T) {
	for k, all := range wholes(t) {
		for _, b := range all {
			for n := range 1 << 16 {
				c := bytes.Clone(b)
				c[0], c[1] = byte(n>>8), byte(n)
				if !bytes.Equal(b, c) {
					wantNoParse(t, k, c, api.ErrCells)
				}
			}
		}
	}
}

func TestPlacesThatAreNoCells(t *testing.T) {
	for k, all := range wholes(t) {
		for _, b := range all {
			for i := range int(b[1]) {
				for place := range 1 << 12 {
					c := bytes.Clone(b)
					c[2+2*i], c[3+2*i] = byte(place>>8), byte(place)
					if !bytes.Equal(b, c) {
						wantNoParse(t, k, c, api.ErrCells)
					}
				}
				c := bytes.Clone(b)
				c[2+2*i] ^= 0x80
				wantNoParse(t, k, c, api.ErrCells)
			}
		}
	}
	// Both have the place of the first one, of the second one, or each the other's.
	for _, places := range [][]byte{{0, 6, 0, 6}, {0, 10, 0, 10}, {0, 10, 0, 6}} {
		b := raw(t, leaf, text("a", ""), text("b", ""))
		copy(b[2:], places)
		wantNoParse(t, leaf, b, api.ErrCells)
	}
	// The cells stand in the other order, and each place is that of the right one.
	wantNoParse(t, leaf, []byte{0, 2, 0, 10, 0, 6, 1, 'b', 0, 0, 1, 'a', 0, 0}, api.ErrCells)
	// One cell is that of both places.
	wantNoParse(t, leaf, []byte{0, 2, 0, 6, 0, 6, 1, 'a', 0, 0}, api.ErrCells)
	// There is a byte ahead of a cell, or between two.
	wantNoParse(t, leaf, []byte{0, 1, 0, 5, 0, 1, 'a', 0, 0}, api.ErrCells)
	wantNoParse(t, leaf, []byte{0, 2, 0, 6, 0, 11, 1, 'a', 0, 0, 0, 1, 'b', 0, 0}, api.ErrCells)
}

func TestTruthsInBytes(t *testing.T) {
	one, other := raw(t, leaf, text("a", "x")), raw(t, leaf, long("a", 7, 100))
	for truth := range 256 {
		for _, b := range [][]byte{one, other} {
			c := bytes.Clone(b)
			c[6] = byte(truth)
			if !bytes.Equal(b, c) {
				wantNoParse(t, leaf, c, api.ErrCells)
			}
		}
	}
	// Long, and what stands behind it would be another cell's.
	wantNoParse(t, leaf, []byte{0, 1, 0, 4, 1, 'a', 2, 0, 0, 0, 7, 0, 0, 0, 100}, api.ErrCells)
	wantNoParse(t, leaf, []byte{0, 1, 0, 4, 1, 'a', 0xff, 0, 0, 0, 7, 0, 0, 0, 100}, api.ErrCells)
	wantNoParse(t, leaf, []byte{0, 1, 0, 4, 1, 'a', 2, 0}, api.ErrCells)
}

func TestLengthsInBytes(t *testing.T) {
	b, c := raw(t, leaf, text("a", "xy")), raw(t, branch, down("a", 7))
	for n := range 256 {
		if n != 1 {
			b[4], c[4] = byte(n), byte(n)
			wantNoParse(t, leaf, b, api.ErrCells)
			wantNoParse(t, branch, c, api.ErrCells)
			b[4], c[4] = 1, 1
		}
		if n != 2 {
			b[7] = byte(n)
			wantNoParse(t, leaf, b, api.ErrCells)
			b[7] = 2
		}
	}
	for n := range 200 {
		key := append([]byte{0, 1, 0, 4, byte(n)}, of(n)...)
		inLeaf, inBranch := slices.Concat(key, []byte{0, 1, 'x'}), slices.Concat(key, []byte{0, 0, 0, 7})
		if n >= 1 && n <= api.MaxKey {
			wantParse(t, leaf, inLeaf, cells(text(of(n), "x")))
		} else {
			wantNoParse(t, leaf, inLeaf, api.ErrCells)
		}
		if n <= api.MaxKey {
			wantParse(t, branch, inBranch, cells(down(of(n), 7)))
		} else {
			wantNoParse(t, branch, inBranch, api.ErrCells)
		}
		told := append([]byte{0, 1, 0, 4, 1, 'a', 0, byte(n)}, of(n)...)
		if n <= api.MaxInline {
			wantParse(t, leaf, told, cells(text("a", of(n))))
		} else {
			wantNoParse(t, leaf, told, api.ErrCells)
		}
	}
}

// four tells a number's four bytes.
func four(n uint32) []byte { return []byte{byte(n >> 24), byte(n >> 16), byte(n >> 8), byte(n)} }

func TestNumbersInBytes(t *testing.T) {
	for _, n := range []uint32{0, 1, 2, 59, 60, 61, 62, 255, 256, 4094, 4095, 4096, 4097, 1 << 16, 1<<16 + 100, 1<<24 + 100, 1 << 31, 1<<31 + 100, math.MaxUint32} {
		inBranch := slices.Concat([]byte{0, 1, 0, 4, 1, 'a'}, four(n))
		page := slices.Concat([]byte{0, 1, 0, 4, 1, 'a', 1}, four(n), four(100))
		size := slices.Concat([]byte{0, 1, 0, 4, 1, 'a', 1}, four(7), four(n))
		if n >= 1 && n <= 4095 {
			wantParse(t, branch, inBranch, cells(down("a", int64(n))))
			wantParse(t, leaf, page, cells(long("a", int64(n), 100)))
		} else {
			wantNoParse(t, branch, inBranch, api.ErrCells)
			wantNoParse(t, leaf, page, api.ErrCells)
		}
		if n >= 61 && n <= 4096 {
			wantParse(t, leaf, size, cells(long("a", 7, int64(n))))
		} else {
			wantNoParse(t, leaf, size, api.ErrCells)
		}
	}
}

func TestKeysInBytesRise(t *testing.T) {
	for one := range 256 {
		for _, other := range []int{0, 1, 'a', 0x7f, 0x80, 0xff} {
			inLeaf := []byte{0, 2, 0, 6, 0, 10, 1, byte(one), 0, 0, 1, byte(other), 0, 0}
			inBranch := []byte{0, 2, 0, 6, 0, 12, 1, byte(one), 0, 0, 0, 7, 1, byte(other), 0, 0, 0, 8}
			if one < other {
				wantParse(t, leaf, inLeaf, cells(text(string([]byte{byte(one)}), ""), text(string([]byte{byte(other)}), "")))
				wantParse(t, branch, inBranch, cells(down(string([]byte{byte(one)}), 7), down(string([]byte{byte(other)}), 8)))
				continue
			}
			wantNoParse(t, leaf, inLeaf, api.ErrCells)
			wantNoParse(t, branch, inBranch, api.ErrCells)
		}
	}
	wantNoParse(t, branch, []byte{0, 2, 0, 6, 0, 11, 0, 0, 0, 0, 7, 0, 0, 0, 0, 8}, api.ErrCells)
	wantParse(t, branch, []byte{0, 2, 0, 6, 0, 11, 0, 0, 0, 0, 7, 1, 'a', 0, 0, 0, 8}, cells(down("", 7), down("a", 8)))
}

// What does not fit has bytes, but none that Raw tells.
func TestParseOfMoreThanFits(t *testing.T) {
	for _, size := range []int{api.MaxRoom, api.MaxRoom + 1, api.MaxRoom + 2, 256, 400} {
		a, b := filled(size)
		one, other := rawTold(leaf, a), rawTold(branch, b)
		if len(one) != size || len(other) != size {
			t.Fatalf("%d, %d bytes, want %d", len(one), len(other), size)
		}
		if size <= api.MaxRoom {
			wantParse(t, leaf, one, a)
			wantParse(t, branch, other, b)
			continue
		}
		wantNoParse(t, leaf, one, api.ErrCells)
		wantNoParse(t, branch, other, api.ErrCells)
	}
	wantNoParse(t, leaf, make([]byte, 1<<20), api.ErrCells)
	wantNoParse(t, branch, bytes.Repeat([]byte{0xff}, 1<<20), api.ErrCells)
}

// A leaf's cells are no branch's, nor the other way round.
func TestParseOfTheOtherKind(t *testing.T) {
	for k, all := range wholes(t) {
		for _, b := range all {
			wantNoParse(t, leaf+branch-k, b, api.ErrCells)
		}
	}
}

// P5.2: Find

func wantFind(t *testing.T, l []api.Cell, key string, want int, is bool) {
	t.Helper()
	if n, got := slots.Find(l, key); n != want || got != is {
		t.Errorf("Find(%s, %.60q): %d %v, want %d %v", brief(l), key, n, got, want, is)
	}
}

func TestFind(t *testing.T) {
	for _, none := range [][]api.Cell{nil, {}} {
		wantFind(t, none, "", 0, false)
		wantFind(t, none, "a", 0, false)
	}
	one := cells(text("b", "x"))
	wantFind(t, one, "", 0, false)
	wantFind(t, one, "a", 0, false)
	wantFind(t, one, "b", 0, true)
	wantFind(t, one, "b\x00", 1, false)
	wantFind(t, one, "c", 1, false)
	below := cells(down("", 7), down("b", 8), down("d", 9))
	wantFind(t, below, "", 0, true)
	wantFind(t, below, "\x00", 1, false)
	wantFind(t, below, "a", 1, false)
	wantFind(t, below, "b", 1, true)
	wantFind(t, below, "c", 2, false)
	wantFind(t, below, "d", 2, true)
	wantFind(t, below, "e", 3, false)
	wantFind(t, below, "\xff", 3, false)
	wantFind(t, below, strings.Repeat("c", 1<<16), 2, false)
	wantFind(t, cells(text("a", ""), text("\x7f", ""), text("\x80", ""), text("\xff", "")), "\x80", 2, true)
}

func TestFindAmongMany(t *testing.T) {
	for many := range 70 {
		var l, m []api.Cell
		for i := range many {
			key := fmt.Sprintf("%03d", 2*i+1)
			l, m = append(l, text(key, "x")), append(m, down(key, 7))
		}
		for i := range 2*many + 1 {
			key := fmt.Sprintf("%03d", i)
			wantFind(t, l, key, i/2, i%2 == 1)
			wantFind(t, m, key, i/2, i%2 == 1)
		}
	}
}

// Of cells that may not be nothing is promised but an end.
func TestFindEnds(t *testing.T) {
	slots.Find(cells(text("c", ""), text("a", ""), text("b", "")), "b")
	slots.Find(make([]api.Cell, 1000), "")
	slots.Find(make([]api.Cell, 1000), "a")
}

// P5.2: Halve

func wantHalves(t *testing.T, k api.PageKind, l []api.Cell, first int) {
	t.Helper()
	left, right, e := slots.Halve(k, l)
	if !alike(left, l[:first]) || !alike(right, l[first:]) || e != api.OK {
		t.Errorf("Halve(%s): %d and %d cells, %v, want the first %d", short(k, l), len(left), len(right), e, first)
	}
}

func TestHalveOfFewerThanTwo(t *testing.T) {
	wantNoHalves(t, leaf, nil)
	wantNoHalves(t, leaf, []api.Cell{})
	wantNoHalves(t, leaf, cells(text("a", "x")))
	wantNoHalves(t, leaf, cells(long("a", 7, 100)))
	wantNoHalves(t, branch, nil)
	wantNoHalves(t, branch, cells(down("", 7)))
}

func TestHalveOfTwo(t *testing.T) {
	for _, n := range []int{0, 1, 60} {
		for _, m := range []int{0, 1, 60} {
			wantHalves(t, leaf, cells(text("a", of(n)), text("b", of(m))), 1)
		}
	}
	wantHalves(t, leaf, cells(text("a", ""), long("b", 7, 100)), 1)
	wantHalves(t, branch, cells(down("", 7), down(of(48), 8)), 1)
	wantHalves(t, branch, cells(down("a", 7), down("b", 8)), 1)
}

// sized tells a leaf's cells that take so many bytes each, their places among them; at least 6.
func sized(sizes ...int) []api.Cell {
	var l []api.Cell
	for i, size := range sizes {
		l = append(l, text(string([]byte{byte(i)}), of(size-6)))
	}
	return l
}

func TestHalveOfMany(t *testing.T) {
	for _, c := range []struct {
		sizes []int
		first int
	}{
		{[]int{10, 10, 10}, 1}, // 10 and 20, or 20 and 10
		{[]int{10, 10, 10, 10}, 2},
		{[]int{10, 10, 10, 10, 10}, 2},
		{[]int{10, 10, 21}, 2},
		{[]int{10, 10, 20}, 2},
		{[]int{10, 10, 11}, 2},
		{[]int{11, 10, 10}, 1},
		{[]int{10, 11, 10}, 1},
		{[]int{30, 10, 10}, 1},
		{[]int{60, 10, 10}, 1},
		{[]int{10, 10, 60}, 2},
		{[]int{10, 60, 10}, 1},
		{[]int{11, 60, 10}, 1},
		{[]int{10, 60, 11}, 2},
		{[]int{10, 60, 9}, 1},
		{[]int{20, 9, 20, 9, 20}, 2},
		{[]int{9, 20, 20, 20, 9}, 2},
		{[]int{10, 20, 10, 20, 20}, 3},
		{[]int{7, 7, 7, 7, 7, 66}, 5},
		{[]int{66, 7, 7, 7, 7, 7}, 1},
	} {
		wantHalves(t, leaf, sized(c.sizes...), c.first)
	}
	wantHalves(t, branch, cells(down("", 1), down("a", 2), down("b", 3)), 2)
	wantHalves(t, branch, cells(down("a", 1), down("b", 2), down("c", 3)), 1)
	wantHalves(t, branch, cells(down("a", 1), down("b", 2), down(of(48), 3)), 2)
	wantHalves(t, branch, cells(down("", 1), down("a", 4095), down("b", 3), down("c", 9)), 2)
}

// How many bytes a Size, not its value, has tells; so does the place of a cell.
func TestHalveOfLongOnes(t *testing.T) {
	wantHalves(t, leaf, cells(long("a", 7, 4096), text("b", ""), text("c", "")), 1)
	wantHalves(t, leaf, cells(text("a", ""), text("b", ""), long("c", 7, 4096)), 2)
	wantHalves(t, leaf, cells(long("a", 7, 4096), text("b", of(7)), text("c", "")), 1)
	wantHalves(t, leaf, cells(text("a", ""), text("b", of(7)), long("c", 7, 61)), 2)
	// Without their places the first one would be as long as all the others.
	wantHalves(t, leaf, sized(26, 6, 6, 6, 6, 6, 6), 2)
}

func TestHalvesKeepApart(t *testing.T) {
	l := sized(10, 20, 30, 40, 50, 60)
	room := l[:5]
	want := slices.Clone(l)
	left, right, _ := slots.Halve(leaf, room)
	others, behind, _ := slots.Halve(leaf, room)
	_ = append(left, text("left", ""))
	_ = append(right, text("right", ""))
	clear(left)
	clear(right)
	if !alike(l, want) {
		t.Error("the cells, or the room behind them, were changed")
	}
	if !alike(slices.Concat(others, behind), want[:5]) {
		t.Error("an answer shares memory with another one")
	}
	clear(l)
	if !alike(slices.Concat(others, behind), want[:5]) {
		t.Error("an answer shares memory with the cells")
	}
	left, right, _ = slots.Halve(leaf, want[:5])
	last := right[0]
	_ = append(left, text("left", ""))
	if right[0] != last {
		t.Error("both parts share memory")
	}
}

func TestRawAndParseKeepApart(t *testing.T) {
	room := sized(10, 20, 30, 40)
	l, want := room[:3], slices.Clone(room)
	b, other := raw(t, leaf, l...), raw(t, leaf, l...)
	before := bytes.Clone(b)
	p, _ := slots.Parse(leaf, b)
	q, _ := slots.Parse(leaf, b)
	clear(p)
	_ = append(p, text("more", ""))
	if !bytes.Equal(b, before) || !alike(q, want[:3]) {
		t.Error("cells share memory with the bytes, or with others")
	}
	clear(b)
	_ = append(b, "more"...)
	if !bytes.Equal(other, before) || !alike(q, want[:3]) || !alike(room, want) {
		t.Error("bytes share memory with the cells, or with others")
	}
}

// Nothing asks of cells what it then changes.
func TestNothingIsChanged(t *testing.T) {
	room := sized(10, 20, 30, 40)
	want := slices.Clone(room)
	l := room[:3]
	slots.Check(leaf, l)
	slots.Size(leaf, l)
	slots.Raw(leaf, l)
	slots.Find(l, "\x01")
	slots.Same(l, l)
	if !alike(room, want) {
		t.Error("the cells, or the room behind them, were changed")
	}
	b := append(raw(t, leaf, l...), "behind"...)
	before := bytes.Clone(b)
	wantParse(t, leaf, b[:len(b)-6], l)
	if !bytes.Equal(b, before) {
		t.Error("the bytes, or the room behind them, were changed")
	}
}

// P5.2: Same

func TestSame(t *testing.T) {
	whole := api.Cell{Key: "a", Text: "x", Long: true, Page: 7, Size: 100}
	unlike := [][]api.Cell{
		nil,
		{{}},
		{{}, {}},
		{whole},
		{whole, whole},
		{{Text: "x", Long: true, Page: 7, Size: 100}},
		{{Key: "a", Long: true, Page: 7, Size: 100}},
		{{Key: "a", Text: "x", Page: 7, Size: 100}},
		{{Key: "a", Text: "x", Long: true, Size: 100}},
		{{Key: "a", Text: "x", Long: true, Page: 7}},
		{{Key: "b", Text: "x", Long: true, Page: 7, Size: 100}},
		{{Key: "a", Text: "y", Long: true, Page: 7, Size: 100}},
		{{Key: "a", Text: "x", Long: true, Page: 1<<32 + 7, Size: 100}},
		{{Key: "a", Text: "x", Long: true, Page: 7, Size: -100}},
		{{Key: "ax", Long: true, Page: 7, Size: 100}},
		{text("a", ""), text("b", ""), text("c", "")},
		{text("a", ""), text("b", "")},
		{text("b", ""), text("a", "")},
		{text("a", ""), text("b", ""), text("c", "x")},
		{text("a", ""), text("b", "x"), text("c", "")},
		{text("a", "x"), text("b", ""), text("c", "")},
		{down("", 7), down("a", 8)},
		{down("", 7), down("a", 9)},
	}
	for i, a := range unlike {
		for j, b := range unlike {
			if got := slots.Same(a, slices.Clone(b)); got != (i == j) {
				t.Errorf("Same(%s, %s): %v", brief(a), brief(b), got)
			}
		}
	}
	for _, none := range [][]api.Cell{nil, {}, cells(whole)[:0]} {
		if !slots.Same(none, nil) || !slots.Same(nil, none) || slots.Same(none, cells(whole)) {
			t.Error("nil and empty are not the same")
		}
	}
}
