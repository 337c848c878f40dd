package utf_test

import (
	"math"
	"slices"
	"strings"
	"testing"

	"pigeonry/api"
	"pigeonry/utf"
)

// edgeRunes are runes at the edges that the chapter names.
var edgeRunes = []rune{1, 0x1f, 0x20, 'a', 0x7e, 0x7f, 0x80, 0x9f, 0xa0, 0xe4, 0x7ff, 0x800, 0x20ac, 0xd7ff, 0xe000, 0xfdcf, 0xfdd0, 0xfdef, 0xfdf0, 0xfffd, 0xfffe, 0xffff, 0x10000, 0x1f600, 0x1fffd, 0x1fffe, 0x1ffff, 0x10fffd, 0x10fffe, 0x10ffff}

// noRunes are numbers that are none; of the great ones the lowest bits are a rune's.
var noRunes = []rune{-1, -2, -0x80, -0x10000, math.MinInt32, math.MinInt32 + 'a', 0xd800, 0xd801, 0xdabc, 0xdbff, 0xdc00, 0xdfff, 0x110000, 0x110001, 0x110061, 0x1fffff, 0x200000, 0x1000061, 0x40000061, math.MaxInt32 - 1, math.MaxInt32}

// wrongPieces are bytes that are no rune's.
var wrongPieces = []string{
	"\x00", "\x80", "\xbf", "\xc0\x80", "\xc1\xbf", "\xc0\xaf", "\xe0\x80\x80", "\xe0\x9f\xbf", "\xf0\x80\x80\x80", "\xf0\x8f\xbf\xbf",
	"\xed\xa0\x80", "\xed\xaf\xbf", "\xed\xb0\x80", "\xed\xbf\xbf", "\xed\xa0\x80\xed\xb0\x80", "\xf4\x90\x80\x80", "\xf4\xbf\xbf\xbf",
	"\xf5\x80\x80\x80", "\xf7\xbf\xbf\xbf", "\xf8\x88\x80\x80\x80", "\xfb\xbf\xbf\xbf\xbf", "\xfc\x84\x80\x80\x80\x80", "\xfd\xbf\xbf\xbf\xbf\xbf", "\xfe", "\xff", "\xff\xfe",
	"\xc2", "\xdf", "\xe0", "\xe0\xa0", "\xe2\x82", "\xed\x9f", "\xef\xbf", "\xf0", "\xf0\x90", "\xf0\x90\x80", "\xf0\x9f\x98", "\xf4\x8f\xbf",
	"\xc2\x20", "\xc2\xc2", "\xc3\x28", "\xc2\x7f", "\xc2\xc0", "\xe2\x28\xa1", "\xe2\x82\x28", "\xe2\x82\xc0", "\xf0\x28\x8c\xbc", "\xf0\x90\x28\xbc", "\xf0\x90\x80\x28", "\xf0\x90\x80\xc0",
}

func wantRaw(t *testing.T, r []rune, want string, wantErr api.Errno) {
	t.Helper()
	if got, e := utf.Raw(r...); got != want || e != wantErr {
		t.Errorf("Raw(%.20x) of %d runes: %s %v, want %s %v", r[:min(len(r), 20)], len(r), short(got), e, short(want), wantErr)
	}
}

// wantWrong holds all that is told of a text against a place at which it is wrong, -1 if it is right.
func wantWrong(t *testing.T, s string, want int) {
	t.Helper()
	e := api.OK
	if want >= 0 {
		e = api.ErrUtf
	}
	if got := utf.Wrong(s); got != want {
		t.Errorf("Wrong(%s): %d, want %d", short(s), got, want)
	}
	if got := utf.Check(s); got != e {
		t.Errorf("Check(%s): %v, want %v", short(s), got, e)
	}
	if l, got := utf.Runes(s); got != e || e != api.OK && len(l) > 0 {
		t.Errorf("Runes(%s): %d runes %v, want %v", short(s), len(l), got, e)
	}
	if cut, got := utf.Cut(s, len(s)); got != e || e == api.OK && cut != s || e != api.OK && cut != "" {
		t.Errorf("Cut(%s, all): %s %v, want %v", short(s), short(cut), got, e)
	}
	if e != api.OK && utf.Plain(s) {
		t.Errorf("Plain(%s): true", short(s))
	}
}

func TestExamples(t *testing.T) {
	wantRaw(t, []rune{0xe4, 0x20ac, 0x1f600}, "\xc3\xa4\xe2\x82\xac\xf0\x9f\x98\x80", api.OK)
	wantWrong(t, "\xc0\x80", 0)
	wantWrong(t, "\xed\xa0\x80", 0)
	wantWrong(t, "a\xff", 1)
	wantWrong(t, "", -1)
	if s, e := utf.Cut("a\xc3\xa4", 2); s != "a" || e != api.OK {
		t.Errorf("Cut: %q %v", s, e)
	}
	if utf.Plain("a\x07") {
		t.Error("Plain: true")
	}
}

// P12.1: no bytes, no runes

func TestNothing(t *testing.T) {
	wantRaw(t, nil, "", api.OK)
	wantRaw(t, []rune{}, "", api.OK)
	if l, e := utf.Runes(""); len(l) != 0 || e != api.OK {
		t.Errorf("Runes of nothing: %v %v", l, e)
	}
	if utf.Check("") != api.OK || !utf.Plain("") || utf.Wrong("") != -1 {
		t.Errorf("nothing: Check %v, Plain %v, Wrong %d", utf.Check(""), utf.Plain(""), utf.Wrong(""))
	}
	for _, most := range []int{0, 1, longText, math.MaxInt} {
		if s, e := utf.Cut("", most); s != "" || e != api.OK {
			t.Errorf("Cut of nothing, %d: %q %v", most, s, e)
		}
	}
}

// P12.1: Raw

func TestRaw(t *testing.T) {
	for _, c := range []struct {
		r    rune
		want string
	}{
		{1, "\x01"}, {0x1f, "\x1f"}, {0x20, " "}, {0x7e, "~"}, {0x7f, "\x7f"},
		{0x80, "\xc2\x80"}, {0x9f, "\xc2\x9f"}, {0xa0, "\xc2\xa0"}, {0xbf, "\xc2\xbf"}, {0xc0, "\xc3\x80"}, {0x7ff, "\xdf\xbf"},
		{0x800, "\xe0\xa0\x80"}, {0xfff, "\xe0\xbf\xbf"}, {0x1000, "\xe1\x80\x80"}, {0xd7ff, "\xed\x9f\xbf"}, {0xe000, "\xee\x80\x80"},
		{0xfdcf, "\xef\xb7\x8f"}, {0xfdd0, "\xef\xb7\x90"}, {0xfdef, "\xef\xb7\xaf"}, {0xfdf0, "\xef\xb7\xb0"},
		{0xfffd, "\xef\xbf\xbd"}, {0xfffe, "\xef\xbf\xbe"}, {0xffff, "\xef\xbf\xbf"},
		{0x10000, "\xf0\x90\x80\x80"}, {0x1fffd, "\xf0\x9f\xbf\xbd"}, {0x1fffe, "\xf0\x9f\xbf\xbe"}, {0x1ffff, "\xf0\x9f\xbf\xbf"},
		{0x3ffff, "\xf0\xbf\xbf\xbf"}, {0x40000, "\xf1\x80\x80\x80"}, {0x10fffd, "\xf4\x8f\xbf\xbd"}, {0x10fffe, "\xf4\x8f\xbf\xbe"}, {0x10ffff, "\xf4\x8f\xbf\xbf"},
	} {
		wantRaw(t, []rune{c.r}, c.want, api.OK)
		wantRaw(t, []rune{'a', c.r, 'b'}, "a"+c.want+"b", api.OK)
		if l, e := utf.Runes("a" + c.want + "b"); e != api.OK || !slices.Equal(l, []rune{'a', c.r, 'b'}) {
			t.Errorf("Runes(a, %x, b): %x %v", c.want, l, e)
		}
	}
}

func TestRawOfNoRune(t *testing.T) {
	for _, r := range noRunes {
		wantRaw(t, []rune{r}, "", api.ErrArg)
		wantRaw(t, []rune{r, 'a'}, "", api.ErrArg)
		wantRaw(t, []rune{'a', r}, "", api.ErrArg)
		wantRaw(t, []rune{'a', 0x20ac, r, 'b'}, "", api.ErrArg)
	}
	wantRaw(t, noRunes, "", api.ErrArg)
}

func TestRawOfANought(t *testing.T) {
	for _, r := range [][]rune{{0}, {0, 'a'}, {'a', 0}, {'a', 0, 'b'}, {0, 0}, {0x1f600, 0}} {
		wantRaw(t, r, "", api.ErrUtf)
	}
}

// A rune that may not be counts for more than a text that may not be said, wherever it stands.
func TestRawNamesTheFirstError(t *testing.T) {
	tooMany := slices.Repeat([]rune{'a'}, longText+1)
	wantRaw(t, tooMany, "", api.ErrUtf)
	for _, r := range noRunes {
		wantRaw(t, []rune{0, r}, "", api.ErrArg)
		wantRaw(t, []rune{r, 0}, "", api.ErrArg)
		wantRaw(t, append(slices.Clone(tooMany), r), "", api.ErrArg)
		wantRaw(t, append([]rune{r}, tooMany...), "", api.ErrArg)
	}
	wantRaw(t, append(slices.Clone(tooMany), 0), "", api.ErrUtf)
}

// What is of too many bytes by its runes' sizes, of any of them.
func TestRawOfManyBytes(t *testing.T) {
	for _, r := range []rune{'a', 0xe4, 0x20ac, 0x1f600} {
		one := toldBytes(r)
		fit := longText / len(one)
		for _, pad := range []int{0, longText - fit*len(one)} {
			ahead := strings.Repeat("x", pad)
			l := append([]rune(ahead), slices.Repeat([]rune{r}, fit)...)
			wantRaw(t, l, ahead+strings.Repeat(one, fit), api.OK)
			wantRaw(t, append(l, r), "", api.ErrUtf)
		}
		wantRaw(t, slices.Repeat([]rune{r}, 3*longText), "", api.ErrUtf)
	}
}

// P12.1, P12.2: what is wrong

func TestWrongPieces(t *testing.T) {
	for _, piece := range wrongPieces {
		wantWrong(t, piece, 0)
		for _, ahead := range []string{"a", "ab", "\xc3\xa4", "\xe2\x82\xac", "\xf0\x9f\x98\x80", "a\xc3\xa4\xe2\x82\xac\xf0\x9f\x98\x80"} {
			wantWrong(t, ahead+piece, len(ahead))
			wantWrong(t, ahead+piece+"a", len(ahead))
			wantWrong(t, ahead+piece+ahead+piece, len(ahead))
		}
	}
}

// Each first byte, with each count of bytes that go on behind it, at the end and in the midst.
func TestEachFirstByte(t *testing.T) {
	for b := range 256 {
		size := 0 // of the rune of that first byte and of bytes bf
		switch {
		case b > 0 && b < 0x80:
			size = 1
		case b >= 0xc2 && b < 0xe0:
			size = 2
		case b >= 0xe0 && b < 0xf0 && b != 0xed:
			size = 3
		case b >= 0xf0 && b < 0xf4:
			size = 4
		}
		for count := range 6 {
			s := string([]byte{byte(b)}) + strings.Repeat("\xbf", count)
			want := 0
			switch {
			case size > 0 && count == size-1:
				want = -1
			case size > 0 && count >= size:
				want = size
			}
			wantWrong(t, s, want)
			if want >= 0 {
				wantWrong(t, "ab"+s, 2+want)
				wantWrong(t, "ab"+s+"c", 2+want)
			} else {
				wantWrong(t, "ab"+s, -1)
				wantWrong(t, "ab"+s+"c", -1)
			}
		}
	}
}

// The least and the greatest second byte behind the first bytes of which not all may stand there, and those just beyond.
func TestSecondBytes(t *testing.T) {
	for _, c := range []struct {
		s    string
		want int
	}{
		{"\xc2\x80", -1}, {"\xc2\xbf", -1}, {"\xc2\x7f", 0}, {"\xc2\xc0", 0}, {"\xdf\xbf", -1},
		{"\xe0\xa0\x80", -1}, {"\xe0\xbf\xbf", -1}, {"\xe0\x9f\xbf", 0}, {"\xe0\x80\x80", 0},
		{"\xed\x80\x80", -1}, {"\xed\x9f\xbf", -1}, {"\xed\xa0\x80", 0}, {"\xed\xbf\xbf", 0},
		{"\xee\x80\x80", -1}, {"\xef\xbf\xbf", -1},
		{"\xf0\x90\x80\x80", -1}, {"\xf0\xbf\xbf\xbf", -1}, {"\xf0\x8f\xbf\xbf", 0}, {"\xf0\x80\x80\x80", 0},
		{"\xf4\x80\x80\x80", -1}, {"\xf4\x8f\xbf\xbf", -1}, {"\xf4\x90\x80\x80", 0}, {"\xf4\xbf\xbf\xbf", 0},
		{"\xf5\x80\x80\x80", 0}, {"\xf8\x80\x80\x80", 0}, {"\xff\x80\x80\x80", 0},
	} {
		wantWrong(t, c.s, c.want)
	}
}

// A byte 0 at each place of a text, in place of what stands there and ahead of it.
func TestNoughtAtEachPlace(t *testing.T) {
	s := "ab\xc3\xa4c\xe2\x82\xacd\xf0\x9f\x98\x80e"
	ends := tell(s).ends
	for at := range len(s) + 1 {
		begin := 0 // of the rune that it is in, or ahead of
		for _, end := range ends {
			if end <= at {
				begin = end
			}
		}
		wantWrong(t, s[:at]+"\x00"+s[at:], begin)
		if at < len(s) {
			wantWrong(t, s[:at]+"\x00"+s[at+1:], begin)
		}
	}
	wantWrong(t, "\x00", 0)
	wantWrong(t, "\x00\x00", 0)
}

// P12.1, P12.2: the bound

// Texts about the bound, with a last rune of one to four bytes.
func TestTextsAboutTheBound(t *testing.T) {
	for _, r := range []rune{'a', 0xe4, 0x20ac, 0x1f600} {
		one := toldBytes(r)
		for size := longText - 5; size <= longText+5; size++ {
			ahead := strings.Repeat("x", size-len(one))
			want := -1
			switch {
			case len(ahead) >= longText:
				want = longText
			case size > longText:
				want = len(ahead)
			}
			wantWrong(t, ahead+one, want)
			wantTold(t, ahead+one, 0, 1, len(ahead)-1, len(ahead), len(ahead)+1, size-1, size, size+1, longText-1, longText, longText+1, math.MaxInt)
			if want < 0 {
				wantWrong(t, ahead+one+strings.Repeat("x", longText-size), -1)
				want = longText
			}
			wantWrong(t, ahead+one+strings.Repeat("x", longText), want)
		}
	}
}

// What is wrong besides counts if it stands ahead of the bound, or at it; behind it the bound is first.
func TestWrongAboutTheBound(t *testing.T) {
	for _, piece := range wrongPieces {
		for _, ahead := range []int{0, 1, 1000, longText - 7, longText - 6, longText - 5, longText - 4, longText - 3, longText - 2, longText - 1, longText, longText + 1, longText + 2, longText + 1000} {
			s := strings.Repeat("x", ahead) + piece
			wantWrong(t, s, min(ahead, longText))
			if got := utf.Wrong(s + strings.Repeat("x", longText)); got != min(ahead, longText) {
				t.Errorf("Wrong(%s, and much behind): %d, want %d", short(s), got, min(ahead, longText))
			}
		}
	}
}

// Where a rune that is right goes beyond the bound, and where what stands there is wrong, too.
func TestRuneAcrossTheBound(t *testing.T) {
	for _, r := range []rune{0xe4, 0x20ac, 0x1f600, last} {
		one := toldBytes(r)
		for within := 1; within < len(one); within++ {
			ahead := strings.Repeat("x", longText-within)
			wantWrong(t, ahead+one, longText-within)
			wantWrong(t, ahead+one+"a", longText-within)
			wantWrong(t, ahead+one[:within], longText-within)
			wantWrong(t, ahead+one[:within]+"\xff", longText-within)
			wantWrong(t, ahead[1:]+"\xff"+one, longText-within-1)
		}
	}
}

func TestLongTexts(t *testing.T) {
	for _, r := range edgeRunes {
		one := toldBytes(r)
		fit := longText / len(one)
		wantWrong(t, strings.Repeat(one, fit), -1)
		wantWrong(t, strings.Repeat(one, fit+1), fit*len(one))
		wantWrong(t, strings.Repeat(one, 2*fit), fit*len(one))
	}
	wantWrong(t, strings.Repeat("x", 1<<21), longText)
	wantWrong(t, strings.Repeat("\x80", 1<<21), 0)
}

// P12.1: Plain

func TestPlain(t *testing.T) {
	want := map[rune]bool{
		1: false, 9: false, 10: false, 0x1f: false, 0x20: true, 0x7e: true, 0x7f: false, 0x80: false, 0x85: false, 0x9f: false, 0xa0: true,
		0x7ff: true, 0x800: true, 0xd7ff: true, 0xe000: true, 0xfdcf: true, 0xfdd0: false, 0xfde0: false, 0xfdef: false, 0xfdf0: true,
		0xfeff: true, 0xfffd: true, 0xfffe: false, 0xffff: false, 0x10000: true, 0x1fdd0: true, 0x1fffd: true, 0x1fffe: false, 0x1ffff: false,
		0x20000: true, 0xffffe: false, 0xfffff: false, 0x100000: true, 0x10fdef: true, 0x10fffd: true, 0x10fffe: false, 0x10ffff: false,
	}
	for r, is := range want {
		one := toldBytes(r)
		for _, s := range []string{one, "a" + one, one + "a", "a" + one + "b", "\xc3\xa4" + one + "\xe2\x82\xac", one + one} {
			if got := utf.Plain(s); got != is {
				t.Errorf("Plain(%x): %v", s, got)
			}
			if got := utf.Check(s); got != api.OK {
				t.Errorf("Check(%x): %v", s, got)
			}
		}
	}
}

func TestPlainOfEachRuneThatIsNot(t *testing.T) {
	count := 0
	for r := rune(1); r <= last; r++ {
		if !toldRune(r) || plain(r) {
			continue
		}
		count++
		for _, s := range []string{toldBytes(r), "a" + toldBytes(r) + "b"} {
			if utf.Plain(s) {
				t.Errorf("Plain(%x): true", s)
			}
		}
	}
	if want := 31 + 33 + 32 + 34; count != want {
		t.Errorf("%d runes are not plain, want %d", count, want)
	}
}

func TestPlainAboutTheBound(t *testing.T) {
	long := strings.Repeat("x", longText)
	for s, want := range map[string]bool{
		long:                      true,
		long[1:]:                  true,
		long + "x":                false,
		long[1:] + "\x07":         false,
		"\x07" + long[1:]:         false,
		long[2:] + "\xc3\xa4":     true,
		long[1:] + "\xc3\xa4":     false,
		long[3:] + "\xef\xbf\xbf": false,
	} {
		if got := utf.Plain(s); got != want {
			t.Errorf("Plain(%s): %v", short(s), got)
		}
	}
}

// P12.2: Cut

func TestCut(t *testing.T) {
	s := "a\xc3\xa4\xe2\x82\xac\xf0\x9f\x98\x80b"
	want := []string{
		"", "a", "a", "a\xc3\xa4", "a\xc3\xa4", "a\xc3\xa4", "a\xc3\xa4\xe2\x82\xac", "a\xc3\xa4\xe2\x82\xac", "a\xc3\xa4\xe2\x82\xac", "a\xc3\xa4\xe2\x82\xac",
		s[:10], s, s, s,
	}
	for most, w := range want {
		if got, e := utf.Cut(s, most); got != w || e != api.OK {
			t.Errorf("Cut(%x, %d): %x %v, want %x", s, most, got, e, w)
		}
	}
	for _, most := range []int{longText, longText + 1, math.MaxInt32, 1 << 32, math.MaxInt} {
		if got, e := utf.Cut(s, most); got != s || e != api.OK {
			t.Errorf("Cut(%x, %d): %x %v", s, most, got, e)
		}
	}
}

func TestCutWhatMayNotBe(t *testing.T) {
	for _, most := range []int{-1, -2, -longText, math.MinInt32, -1 << 32, math.MinInt} {
		for _, s := range []string{"", "a", "a\xc3\xa4", "\xff", "\x00", strings.Repeat("x", longText+1)} {
			if got, e := utf.Cut(s, most); got != "" || e != api.ErrArg {
				t.Errorf("Cut(%s, %d): %q %v, want %v", short(s), most, got, e, api.ErrArg)
			}
		}
	}
}

// A text that may not be said is refused, even if the beginning that is asked for may be.
func TestCutOfWhatMayNotBeSaid(t *testing.T) {
	long := strings.Repeat("x", longText)
	for _, s := range []string{"\xff", "abc\xff", "\x00", "abc\x00", "abc\xe2\x82", "abc\xed\xa0\x80def", long + "x", long[1:] + "\xc3\xa4", long + "\xff"} {
		for _, most := range []int{0, 1, 2, 3, 4, 5, 6, longText - 1, longText, longText + 1, math.MaxInt} {
			if got, e := utf.Cut(s, most); got != "" || e != api.ErrUtf {
				t.Errorf("Cut(%s, %d): %s %v, want %v", short(s), most, short(got), e, api.ErrUtf)
			}
		}
	}
}

func TestCutOfALongText(t *testing.T) {
	s := strings.Repeat("\xe2\x82\xac", longText/3)
	for most := longText - 7; most <= longText+3; most++ {
		want := min(most, longText) / 3 * 3
		if got, e := utf.Cut(s, most); got != s[:want] || e != api.OK {
			t.Errorf("Cut at %d: %d bytes %v, want %d", most, len(got), e, want)
		}
	}
}

// What is answered is new, and what is handed in stays as it is.

func TestRunesAreNew(t *testing.T) {
	a, _ := utf.Runes("a\xc3\xa4b")
	b, _ := utf.Runes("a\xc3\xa4b")
	clear(a)
	if want := []rune{'a', 0xe4, 'b'}; !slices.Equal(b, want) {
		t.Errorf("Runes: %x, want %x", b, want)
	}
	if c, e := utf.Runes("a\xc3\xa4b"); e != api.OK || !slices.Equal(b, c) {
		t.Errorf("Runes once more: %x %v", c, e)
	}
}

func TestRawLeavesItsRunes(t *testing.T) {
	room := []rune{'a', 0xe4, 0, 'b', 0xd800, 'c', 'd'}
	kept := slices.Clone(room)
	for from := range room {
		for to := from; to <= len(room); to++ {
			first, e := utf.Raw(room[from:to]...)
			again, f := utf.Raw(room[from:to]...)
			if first != again || e != f {
				t.Errorf("Raw(%x): %x %v, then %x %v", kept[from:to], first, e, again, f)
			}
			if !slices.Equal(room, kept) {
				t.Fatalf("the runes were changed: %x", room)
			}
		}
	}
	s, _ := utf.Raw(room[:2]...)
	clear(room)
	if s != "a\xc3\xa4" {
		t.Errorf("the text hangs on its runes: %x", s)
	}
}

// P12.3

func TestRawOfRunes(t *testing.T) {
	for _, r := range edgeRunes {
		for _, q := range edgeRunes {
			s, e := utf.Raw(r, q, r)
			if e != api.OK {
				t.Errorf("Raw(%x, %x, %x): %v", r, q, r, e)
			}
			l, e := utf.Runes(s)
			if e != api.OK || !slices.Equal(l, []rune{r, q, r}) {
				t.Errorf("Runes of Raw(%x, %x, %x): %x %v", r, q, r, l, e)
			}
			wantRaw(t, l, s, api.OK)
		}
	}
}

func TestPartsThatMayNotBeSaid(t *testing.T) {
	for _, r := range edgeRunes {
		one := toldBytes(r)
		s := "a" + one + "b"
		wantWrong(t, s, -1)
		wantWrong(t, s+s, -1)
		for at := 1; at < len(one); at++ {
			wantWrong(t, s[:1+at], 1)
			wantWrong(t, s[1+at:], 0)
			wantWrong(t, s[:1+at]+s, 1)
			wantWrong(t, s+s[1+at:], len(s))
		}
	}
}
