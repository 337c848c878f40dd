package crc_test

import (
	"bytes"
	"hash/crc32"
	"math"
	"testing"

	"pigeonry/api"
	"pigeonry/crc"
)

// wordAsTold works a byte's word out as the chapter tells it.
func wordAsTold(b byte) uint32 {
	w := uint32(b)
	for range 8 {
		odd := w&1 == 1
		w /= 2
		if odd {
			w ^= 0xedb88320
		}
	}
	return w
}

// sumAsTold works the sum of bytes out as the chapter tells it.
func sumAsTold(text []byte) uint32 {
	sum := uint32(0xffffffff)
	for _, b := range text {
		sum = wordAsTold(byte(sum&0xff)^b) ^ sum>>8
	}
	return ^sum
}

// some tells n bytes that are the same each time.
func some(n int, seed uint32) []byte {
	text := make([]byte, n)
	for i := range text {
		seed = seed*1664525 + 1013904223
		text[i] = byte(seed >> 24)
	}
	return text
}

func join(t *testing.T, a, b uint32, n int64) uint32 {
	t.Helper()
	sum, err := crc.Join(a, b, n)
	if err != api.OK {
		t.Fatalf("Join(%x, %x, %d): %v", a, b, n, err)
	}
	return sum
}

func write(t *testing.T, a *crc.Adder, text []byte) {
	t.Helper()
	if err := a.Write(text); err != api.OK {
		t.Fatalf("Write of %d bytes: %v", len(text), err)
	}
}

func wantAdder(t *testing.T, a *crc.Adder, text []byte) {
	t.Helper()
	if a.Sum() != sumAsTold(text) || a.Len() != int64(len(text)) {
		t.Errorf("Sum %x, Len %d; want %x, %d", a.Sum(), a.Len(), sumAsTold(text), len(text))
	}
}

// P1.1: Word

func TestWordExamples(t *testing.T) {
	if crc.Word(0) != 0 || crc.Word(1) != 0x77073096 {
		t.Errorf("Word(0) %x, Word(1) %x", crc.Word(0), crc.Word(1))
	}
}

func TestWordOfEachByte(t *testing.T) {
	for b := range 256 {
		got := crc.Word(byte(b))
		if got != wordAsTold(byte(b)) || got != crc32.IEEETable[b] {
			t.Errorf("Word(%d): %x, want %x", b, got, wordAsTold(byte(b)))
		}
	}
}

// P1.1: Sum

func TestSumExamples(t *testing.T) {
	if sum := crc.Sum([]byte("123456789")); sum != 0xcbf43926 {
		t.Errorf("Sum(123456789): %x", sum)
	}
	if sum := crc.Sum([]byte("12345678"), []byte("9")); sum != 0xcbf43926 {
		t.Errorf("Sum(12345678, 9): %x", sum)
	}
}

func TestSumOfNothing(t *testing.T) {
	lists := [][][]byte{nil, {}, {nil}, {{}}, {nil, {}, nil}, {{}, {}, {}}}
	for i, parts := range lists {
		if sum := crc.Sum(parts...); sum != 0 {
			t.Errorf("list %d: %x, want 0", i, sum)
		}
	}
}

func TestSumOfManyLengths(t *testing.T) {
	for n := range 600 {
		text := some(n, uint32(n))
		if sum := crc.Sum(text); sum != sumAsTold(text) || sum != crc32.ChecksumIEEE(text) {
			t.Errorf("%d bytes: %x, want %x", n, sum, sumAsTold(text))
		}
	}
}

func TestSumOfOneByte(t *testing.T) {
	for b := range 256 {
		text := []byte{byte(b)}
		if sum := crc.Sum(text); sum != sumAsTold(text) {
			t.Errorf("byte %d: %x, want %x", b, sum, sumAsTold(text))
		}
	}
}

func TestSumOfMuch(t *testing.T) {
	text := some(1<<20+1, 7)
	if sum := crc.Sum(text); sum != crc32.ChecksumIEEE(text) {
		t.Errorf("%x, want %x", sum, crc32.ChecksumIEEE(text))
	}
}

func TestSumHangsOnOrderAndOnNoughts(t *testing.T) {
	if crc.Sum([]byte("ab"), []byte("cd")) == crc.Sum([]byte("cd"), []byte("ab")) {
		t.Error("parts in another order have the same sum")
	}
	seen := map[uint32]int{}
	for n := range 300 {
		sum := crc.Sum(make([]byte, n))
		if m, ok := seen[sum]; ok {
			t.Errorf("%d and %d bytes of 0 have the same sum", m, n)
		}
		seen[sum] = n
	}
}

func TestSumLeavesItsParts(t *testing.T) {
	room := some(40, 3)
	kept := bytes.Clone(room)
	parts := [][]byte{room[:10], nil, room[10:20]}
	first := crc.Sum(parts...)
	if !bytes.Equal(room, kept) || len(parts[0]) != 10 || parts[1] != nil || len(parts[2]) != 10 {
		t.Error("the parts were changed")
	}
	crc.Sum(some(99, 4))
	if crc.Sum(parts...) != first {
		t.Error("the same parts have another sum later on")
	}
}

// P1.1: Join

func TestJoinExample(t *testing.T) {
	a, b := crc.Sum([]byte("1234")), crc.Sum([]byte("56789"))
	if sum := join(t, a, b, 5); sum != 0xcbf43926 {
		t.Errorf("%x", sum)
	}
}

func TestJoinAtEachCut(t *testing.T) {
	for _, n := range []int{0, 1, 2, 3, 7, 64, 255, 256, 257, 600} {
		text := some(n, 11)
		for cut := range n + 1 {
			a, b := crc.Sum(text[:cut]), crc.Sum(text[cut:])
			if sum := join(t, a, b, int64(n-cut)); sum != sumAsTold(text) {
				t.Errorf("%d bytes, cut at %d: %x, want %x", n, cut, sum, sumAsTold(text))
			}
		}
	}
}

func TestJoinWithNoBytes(t *testing.T) {
	text := crc.Sum([]byte("pigeon"))
	if sum := join(t, text, crc.Sum(), 0); sum != text {
		t.Errorf("no bytes behind: %x, want %x", sum, text)
	}
	if sum := join(t, crc.Sum(), text, 6); sum != text {
		t.Errorf("no bytes ahead: %x, want %x", sum, text)
	}
	if sum := join(t, crc.Sum(), crc.Sum(), 0); sum != 0 {
		t.Errorf("no bytes at all: %x, want 0", sum)
	}
}

func TestJoinOfLongRuns(t *testing.T) {
	ahead := some(100, 5)
	for _, n := range []int{1<<16 - 1, 1 << 16, 1<<20 + 3} {
		behind := some(n, uint32(n))
		want := crc32.Update(crc32.ChecksumIEEE(ahead), crc32.IEEETable, behind)
		if sum := join(t, crc.Sum(ahead), crc.Sum(behind), int64(n)); sum != want {
			t.Errorf("%d bytes behind: %x, want %x", n, sum, want)
		}
	}
}

// A bit that is led over 2^32-1 bits comes back to itself, so 2^32-1 bytes lead a sum as none do, and 2^40 bytes as 256 do: lengths that no run in memory reaches are told by short ones.
func TestJoinOfHugeLengths(t *testing.T) {
	ahead := some(50, 9)
	a := crc.Sum(ahead)
	same := []struct {
		huge  int64
		short int
	}{
		{1<<32 - 1, 0},
		{1 << 32, 1},
		{1<<33 - 2, 0},
		{1<<32 + 299, 300},
		{1 << 39, 128},
		{1<<40 - 1, 255},
		{1 << 40, 256},
	}
	for _, s := range same {
		noughts := make([]byte, s.short)
		for _, b := range []uint32{0, 1, 0x80000000, 0xcbf43926, 0xffffffff} {
			want := crc32.ChecksumIEEE(append(bytes.Clone(ahead), noughts...)) ^ crc32.ChecksumIEEE(noughts) ^ b
			if sum := join(t, a, b, s.huge); sum != want {
				t.Errorf("Join(%x, %x, %d): %x, want %x", a, b, s.huge, sum, want)
			}
		}
	}
}

func TestJoinOfNoLength(t *testing.T) {
	for _, n := range []int64{-1, -2, -8, -1 << 40, math.MinInt64, math.MinInt64 + 1, 1<<40 + 1, 1<<40 + 2, 1 << 41, 1 << 62, math.MaxInt64} {
		for _, a := range []uint32{0, 0xcbf43926, 0xffffffff} {
			if sum, err := crc.Join(a, a, n); err != api.ErrArg || sum != 0 {
				t.Errorf("Join(%x, %x, %d): %x %v, want 0 %v", a, a, n, sum, err, api.ErrArg)
			}
		}
	}
}

// P1.2

func TestNewHasNoBytes(t *testing.T) {
	a := crc.New()
	if a == nil {
		t.Fatal("New: nil")
	}
	wantAdder(t, a, nil)
	if a.Sum() != 0 || a.Len() != 0 {
		t.Errorf("Sum %x, Len %d", a.Sum(), a.Len())
	}
	b := crc.New()
	write(t, a, []byte("a"))
	wantAdder(t, b, nil)
}

func TestWriteGoesOn(t *testing.T) {
	text := some(1000, 13)
	a := crc.New()
	for at := 0; at < len(text); {
		end := min(at+at%37+1, len(text))
		write(t, a, text[at:end])
		at = end
		wantAdder(t, a, text[:at])
		wantAdder(t, a, text[:at])
	}
}

func TestWriteOfNoBytes(t *testing.T) {
	a := crc.New()
	write(t, a, nil)
	write(t, a, []byte{})
	wantAdder(t, a, nil)
	write(t, a, []byte("pigeon"))
	write(t, a, nil)
	write(t, a, []byte{})
	wantAdder(t, a, []byte("pigeon"))
}

func TestWriteKeepsNoBytes(t *testing.T) {
	room := some(40, 17)
	kept := bytes.Clone(room)
	a := crc.New()
	write(t, a, room[:20])
	if !bytes.Equal(room, kept) {
		t.Error("the bytes were changed")
	}
	clear(room)
	wantAdder(t, a, kept[:20])
}

// Behind these four bytes nothing is left of the number that the sum began with: the sum is still under way.
func TestWriteBehindANoughtWithin(t *testing.T) {
	text := []byte{0xff, 0xff, 0xff, 0xff}
	a := crc.New()
	write(t, a, text)
	wantAdder(t, a, text)
	write(t, a, []byte{5})
	wantAdder(t, a, append(text, 5))
	wantAdder(t, a.Copy(), append(text, 5))
}

func TestCopyGoesOnApart(t *testing.T) {
	a := crc.New()
	write(t, a, []byte("12"))
	c := a.Copy()
	wantAdder(t, c, []byte("12"))
	write(t, a, []byte("3456789"))
	wantAdder(t, a, []byte("123456789"))
	wantAdder(t, c, []byte("12"))
	write(t, c, []byte("xyz"))
	wantAdder(t, a, []byte("123456789"))
	wantAdder(t, c, []byte("12xyz"))
	d := c.Copy()
	write(t, d, []byte("!"))
	wantAdder(t, c, []byte("12xyz"))
	wantAdder(t, d, []byte("12xyz!"))
}

func TestCopyOfNoBytes(t *testing.T) {
	a := crc.New()
	c := a.Copy()
	if c == nil || c == a {
		t.Fatal("Copy: not another one")
	}
	wantAdder(t, c, nil)
	write(t, c, []byte("1"))
	wantAdder(t, a, nil)
	wantAdder(t, c, []byte("1"))
}

func TestNoSumUnderWay(t *testing.T) {
	for name, a := range map[string]*crc.Adder{"nil": nil, "zero": {}} {
		for _, text := range [][]byte{nil, {}, []byte("12")} {
			if err := a.Write(text); err != api.ErrNil {
				t.Errorf("%s: Write(%q): %v, want %v", name, text, err, api.ErrNil)
			}
		}
		if a.Sum() != 0 || a.Len() != 0 || a.Copy() != nil {
			t.Errorf("%s: Sum %x, Len %d, Copy %v", name, a.Sum(), a.Len(), a.Copy())
		}
	}
}

// P1.3

func TestCutsDoNotMatter(t *testing.T) {
	text := some(90, 19)
	want := sumAsTold(text)
	for i := range len(text) + 1 {
		for j := i; j <= len(text); j++ {
			if sum := crc.Sum(text[:i], nil, text[i:j], text[j:]); sum != want {
				t.Fatalf("Sum cut at %d and %d: %x, want %x", i, j, sum, want)
			}
			a := crc.New()
			write(t, a, text[:i])
			write(t, a, text[i:j])
			write(t, a, text[j:])
			if a.Sum() != want || a.Len() != int64(len(text)) {
				t.Fatalf("written, cut at %d and %d: %x, %d", i, j, a.Sum(), a.Len())
			}
		}
	}
}

func TestJoinsDoNotMatter(t *testing.T) {
	text := some(90, 23)
	want := sumAsTold(text)
	for i := range len(text) + 1 {
		for j := i; j <= len(text); j++ {
			a, b, c := crc.Sum(text[:i]), crc.Sum(text[i:j]), crc.Sum(text[j:])
			n, m := int64(j-i), int64(len(text)-j)
			front := join(t, join(t, a, b, n), c, m)
			back := join(t, a, join(t, b, c, m), n+m)
			if front != want || back != want {
				t.Fatalf("cut at %d and %d: from the front %x, from the back %x, want %x", i, j, front, back, want)
			}
		}
	}
}

func TestJoinsOfAnyNumbersDoNotMatter(t *testing.T) {
	sums := []uint32{0, 1, 0x80000000, 0xcbf43926, 0xffffffff}
	lengths := []int64{0, 1, 5, 1 << 31, 1<<39 - 1, 1 << 39}
	for i, a := range sums {
		b, c := sums[(i+1)%len(sums)], sums[(i+3)%len(sums)]
		for _, n := range lengths {
			for _, m := range lengths {
				front := join(t, join(t, a, b, n), c, m)
				back := join(t, a, join(t, b, c, m), n+m)
				if front != back {
					t.Errorf("%x, %x of %d, %x of %d: from the front %x, from the back %x", a, b, n, c, m, front, back)
				}
			}
		}
	}
}

// turned tells a copy of text of which one bit is turned.
func turned(text []byte, bit int) []byte {
	c := bytes.Clone(text)
	c[bit/8] ^= 1 << (bit % 8)
	return c
}

func TestTurnedBitsOfShortTexts(t *testing.T) {
	for _, text := range [][]byte{{0}, {0xff}, []byte("ab"), make([]byte, 5), some(6, 29)} {
		want := crc.Sum(text)
		for i := range len(text) * 8 {
			one := turned(text, i)
			if crc.Sum(one) == want {
				t.Errorf("%x: bit %d turned, the same sum", text, i)
			}
			for j := range i {
				two := turned(one, j)
				if crc.Sum(two) == want {
					t.Errorf("%x: bits %d and %d turned, the same sum", text, i, j)
				}
				for k := range j {
					if crc.Sum(turned(two, k)) == want {
						t.Errorf("%x: bits %d, %d and %d turned, the same sum", text, i, j, k)
					}
				}
			}
		}
	}
}

// What a turned bit does to the sum does not hang on the other bits: so what each does alone tells of all twos and threes, in a text of the greatest length and in each that is shorter.
func TestTurnedBitsOfTheLongestText(t *testing.T) {
	text := some(1000, 31)
	want := crc.Sum(text)
	bitOf := map[uint32]int{0: -1}
	does := make([]uint32, len(text)*8)
	for bit := range does {
		does[bit] = crc.Sum(turned(text, bit)) ^ want
		if other, ok := bitOf[does[bit]]; ok {
			t.Fatalf("bit %d does to the sum what bit %d does (-1: nothing)", bit, other)
		}
		bitOf[does[bit]] = bit
	}
	for i := range does {
		for j := range i {
			if k, ok := bitOf[does[i]^does[j]]; ok && k < j {
				t.Fatalf("bits %d, %d and %d turned, the same sum", i, j, k)
			}
		}
	}
}

func TestTurnedBitsAddUp(t *testing.T) {
	text := some(1000, 37)
	want := crc.Sum(text)
	for i := 2; i < len(text)*8; i += 61 {
		one, two, three := turned(text, i), turned(text, i/2), turned(text, i*7%(len(text)*8))
		all := turned(turned(turned(text, i), i/2), i*7%(len(text)*8))
		sum := crc.Sum(all)
		if sum != crc.Sum(one)^crc.Sum(two)^crc.Sum(three) {
			t.Errorf("bit %d: what turned bits do hangs on the others", i)
		}
		if sum == want {
			t.Errorf("bit %d: three bits turned, the same sum", i)
		}
	}
}
