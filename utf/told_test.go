package utf_test

import (
	"fmt"
	"slices"
	"strings"
	"sync"
	"testing"
	"unicode/utf8"

	"pigeonry/api"
	"pigeonry/utf"
)

const (
	longText = 65535 // bytes of a text that may be said
	last     = 0x10ffff
)

// toldRune tells whether a number is a rune, as the chapter tells it.
func toldRune(r rune) bool { return 0 <= r && r <= last && !(0xd800 <= r && r <= 0xdfff) }

// toldBytes tells the bytes of a rune as the chapter tells them, by the digits of its bits.
func toldBytes(r rune) string {
	lead, more := 0xf0, 3
	switch {
	case r < 0x80:
		return string([]byte{byte(r)})
	case r < 0x800:
		lead, more = 0xc0, 1
	case r < 0x10000:
		lead, more = 0xe0, 2
	}
	b := make([]byte, more+1)
	for i := more; i > 0; i-- {
		b[i] = byte(0x80 + r%64)
		r /= 64
	}
	b[0] = byte(lead + int(r))
	return string(b)
}

// laid tells all runes by their bytes.
var laid = sync.OnceValue(func() map[string]rune {
	all := make(map[string]rune, last+1)
	for r := rune(0); r <= last; r++ {
		if toldRune(r) {
			all[toldBytes(r)] = r
		}
	}
	return all
})

// toldFirst tells the rune that stands whole at the beginning of a text, 0 if none does that may be there.
func toldFirst(s string) (r rune, size int) {
	for n := 1; n <= min(4, len(s)); n++ {
		if one := laid()[s[:n]]; one != 0 {
			return one, n
		}
	}
	return 0, 0
}

// told is what the chapter tells of a text.
type told struct {
	runes []rune
	ends  []int // of the runes, 0 ahead of them
	wrong int
}

func tell(s string) told {
	m := told{ends: []int{0}, wrong: -1}
	for at := 0; at < len(s); {
		r, size := toldFirst(s[at:])
		if size == 0 || at+size > longText {
			m.wrong = at
			break
		}
		at += size
		m.runes, m.ends = append(m.runes, r), append(m.ends, at)
	}
	return m
}

// plain tells whether a rune may be in a plain text.
func plain(r rune) bool {
	digits := fmt.Sprintf("%06x", r)
	switch {
	case r < 0x20, 0x7f <= r && r <= 0x9f, 0xfdd0 <= r && r <= 0xfdef:
		return false
	}
	return !strings.HasSuffix(digits, "fffe") && !strings.HasSuffix(digits, "ffff")
}

// short tells a text in a message.
func short(s string) string {
	if len(s) > 60 {
		return fmt.Sprintf("%x.. of %d bytes, ending in %x", s[:20], len(s), s[len(s)-20:])
	}
	return fmt.Sprintf("%x", s)
}

// wantCut holds a beginning of at most so many bytes against what is told.
func wantCut(t *testing.T, s string, most int, m told) {
	t.Helper()
	want, wantErr := "", api.OK
	switch {
	case most < 0:
		wantErr = api.ErrArg
	case m.wrong >= 0:
		wantErr = api.ErrUtf
	default:
		for _, end := range m.ends {
			if end <= most {
				want = s[:end]
			}
		}
	}
	if got, e := utf.Cut(s, most); got != want || e != wantErr {
		t.Errorf("Cut(%s, %d): %s %v, want %s %v", short(s), most, short(got), e, short(want), wantErr)
	}
}

// wantSaid holds Check, Wrong, Runes and Raw of these against what is told.
func wantSaid(t *testing.T, s string, m told) {
	t.Helper()
	e := api.OK
	if m.wrong >= 0 {
		e = api.ErrUtf
		m.runes = nil
	}
	if got := utf.Wrong(s); got != m.wrong {
		t.Errorf("Wrong(%s): %d, want %d", short(s), got, m.wrong)
	}
	if got := utf.Check(s); got != e {
		t.Errorf("Check(%s): %v, want %v", short(s), got, e)
	}
	l, got := utf.Runes(s)
	if got != e || !slices.Equal(l, m.runes) {
		t.Errorf("Runes(%s): %d runes %v, want %d %v", short(s), len(l), got, len(m.runes), e)
	}
	if e == api.OK {
		if again, e := utf.Raw(l...); again != s || e != api.OK {
			t.Errorf("Raw of Runes(%s): %s %v", short(s), short(again), e)
		}
	}
}

// wantTold holds all that is told of a text against what is told of it, cut at some numbers.
func wantTold(t *testing.T, s string, cuts ...int) {
	t.Helper()
	m := tell(s)
	wantSaid(t, s, m)
	if got, want := utf.Plain(s), m.wrong < 0 && !slices.ContainsFunc(m.runes, func(r rune) bool { return !plain(r) }); got != want {
		t.Errorf("Plain(%s): %v, want %v", short(s), got, want)
	}
	for _, most := range cuts {
		wantCut(t, s, most, m)
	}
}

// allCuts tells all numbers from below 0 to beyond a text.
func allCuts(s string) (all []int) {
	for most := -2; most <= len(s)+2; most++ {
		all = append(all, most)
	}
	return all
}

// dice tells numbers that are the same each time.
type dice uint32

func (d *dice) roll(n int) int {
	*d = *d*1664525 + 1013904223
	return int(*d>>8) % n
}

// pick tells one of some things.
func pick[T any](d *dice, things ...T) T { return things[d.roll(len(things))] }

// text tells a text of some pieces, of which few or many are wrong.
func (d *dice) text() string {
	var s strings.Builder
	wrong := pick(d, 0, 0, 1, 4)
	for range d.roll(20) {
		switch {
		case d.roll(10) >= wrong:
			s.WriteString(toldBytes(pick(d, edgeRunes...)))
		case d.roll(2) == 0:
			s.WriteString(pick(d, wrongPieces...))
		default:
			s.WriteByte(byte(d.roll(256)))
		}
	}
	return s.String()
}

// All that is told of texts of all kinds, as the chapter tells it.
func TestTextsAsTold(t *testing.T) {
	for seed := range 6000 {
		d := dice(seed)
		s := d.text()
		wantTold(t, s, allCuts(s)...)
		if t.Failed() {
			t.Fatalf("seed %d", seed)
		}
	}
}

// The same of texts of any bytes.
func TestBytesAsTold(t *testing.T) {
	for seed := range 20000 {
		d := dice(seed)
		b := make([]byte, d.roll(7))
		for i := range b {
			b[i] = pick(&d, byte(d.roll(256)), byte(0x80+d.roll(64)), byte(d.roll(128)))
		}
		wantTold(t, string(b), allCuts(string(b))...)
		if t.Failed() {
			t.Fatalf("seed %d", seed)
		}
	}
}

// The same of each text of one byte, and of two.
func TestEachTextOfTwoBytes(t *testing.T) {
	for a := range 256 {
		wantTold(t, string([]byte{byte(a)}), -1, 0, 1, 2)
		for b := range 256 {
			wantTold(t, string([]byte{byte(a), byte(b)}), 0, 1, 2)
		}
	}
}

// Each text of three and of four bytes that are at the edges of what a byte may be there.
func TestEachTextOfEdges(t *testing.T) {
	edges := []byte{0, 1, 0x7f, 0x80, 0x81, 0x8f, 0x90, 0x9f, 0xa0, 0xbe, 0xbf, 0xc0, 0xc1, 0xc2, 0xdf, 0xe0, 0xe1, 0xec, 0xed, 0xee, 0xef, 0xf0, 0xf1, 0xf3, 0xf4, 0xf5, 0xf7, 0xf8, 0xfc, 0xff}
	for _, a := range edges {
		for _, b := range edges {
			for _, c := range edges {
				s := string([]byte{a, b, c})
				wantSaid(t, s, tell(s))
				for _, d := range []byte{0, 0x41, 0x7f, 0x80, 0xbf, 0xc0, 0xff} {
					s := string([]byte{a, b, c, d})
					wantSaid(t, s, tell(s))
				}
			}
		}
	}
}

// All runes, and beside them what the library tells of them.
func TestEachRuneAsTold(t *testing.T) {
	for r := rune(-300); r <= last+300; r++ {
		want, wantErr := "", api.ErrArg
		switch {
		case r == 0:
			wantErr = api.ErrUtf
		case toldRune(r):
			want, wantErr = toldBytes(r), api.OK
		}
		got, e := utf.Raw(r)
		if got != want || e != wantErr || (e == api.OK) != (r != 0 && utf8.ValidRune(r)) {
			t.Fatalf("Raw(%x): %x %v, want %x %v", r, got, e, want, wantErr)
		}
		if e != api.OK {
			continue
		}
		if got != string(utf8.AppendRune(nil, r)) {
			t.Fatalf("Raw(%x): %x", r, got)
		}
		if l, e := utf.Runes(got); e != api.OK || len(l) != 1 || l[0] != r {
			t.Fatalf("Runes(%x): %x %v", got, l, e)
		}
		if utf.Plain(got) != plain(r) {
			t.Fatalf("Plain(%x): %v", got, !plain(r))
		}
	}
}

// P12.3: two texts, one behind the other, and a text cut at each byte.
func TestPartsAsTold(t *testing.T) {
	for seed := range 3000 {
		d := dice(seed)
		a, b := d.text(), d.text()
		if utf.Check(a) == api.OK && utf.Check(a+b) != utf.Check(b) {
			t.Fatalf("seed %d: %x, and behind it %x", seed, a, b)
		}
		m := tell(a)
		for at := range len(a) + 1 {
			left, right := utf.Check(a[:at]), utf.Check(a[at:])
			switch {
			case m.wrong < 0 && slices.Contains(m.ends, at):
				if left != api.OK || right != api.OK {
					t.Fatalf("seed %d: %x, cut at its rune's end %d: %v, %v", seed, a, at, left, right)
				}
			case m.wrong < 0:
				if left != api.ErrUtf || right != api.ErrUtf {
					t.Fatalf("seed %d: %x, cut within a rune at %d: %v, %v", seed, a, at, left, right)
				}
			case slices.Contains(m.ends, at):
				if left != api.OK || right != api.ErrUtf || utf.Wrong(a[at:]) != m.wrong-at {
					t.Fatalf("seed %d: %x, wrong at %d, cut at %d: %v, %v at %d", seed, a, m.wrong, at, left, right, utf.Wrong(a[at:]))
				}
			}
		}
	}
}

// The library tells the same of texts, but for a byte 0 and the bound.
func TestTextsBesideTheLibrary(t *testing.T) {
	for seed := range 20000 {
		d := dice(seed)
		s := d.text()
		if want := utf8.ValidString(s) && !strings.Contains(s, "\x00"); (utf.Check(s) == api.OK) != want {
			t.Fatalf("seed %d: Check(%x), want %v", seed, s, want)
		}
		if l, e := utf.Runes(s); e == api.OK && !slices.Equal(l, []rune(s)) {
			t.Fatalf("seed %d: Runes(%x): %x", seed, s, l)
		}
	}
}
