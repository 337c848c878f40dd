package keys_test

import (
	"bytes"
	"fmt"
	"math"
	"math/big"
	"math/bits"
	"regexp"
	"slices"
	"strconv"
	"strings"
	"testing"

	"pigeonry/api"
	"pigeonry/keys"
)

// toldMay tells what Check is to answer.
func toldMay(l []api.Part) api.Errno {
	if len(l) < 1 || len(l) > 4 {
		return api.ErrArg
	}
	for _, p := range l {
		n, f, s := p.N != 0, p.F != 0, p.S != ""
		if p.Kind < 1 || p.Kind > 3 || n && p.Kind != 1 || f && p.Kind != 2 || s && p.Kind != 3 {
			return api.ErrArg
		}
	}
	if len(toldBytes(l)) > 48 {
		return api.ErrLong
	}
	return api.OK
}

// toldDigits tells a number's 64 bits as digits to the base 2, as IEEE 754 lays them: the sign, 11 bits of the exponent, 52 of what stands behind the point.
func toldDigits(f float64) string {
	sign, exponent, behind := 0, 0, int64(0)
	switch {
	case f != f:
		exponent, behind = 2047, 1<<51
	case f > math.MaxFloat64 || f < -math.MaxFloat64:
		exponent = 2047
	default:
		half, exp := math.Frexp(math.Abs(f)) // from a half up to 1
		exponent, behind = exp+1022, int64(half*(1<<53))-1<<52
		if exponent <= 0 {
			exponent, behind = 0, int64(math.Ldexp(math.Abs(f), 1074))
		}
		if f == 0 {
			exponent, behind = 0, 0
		}
	}
	if f < 0 {
		sign = 1
	}
	return fmt.Sprintf("%01b%011b%052b", sign, exponent, behind)
}

// toldNumber tells the number that has such digits.
func toldNumber(digits string) float64 {
	sign, part := 1.0, func(from, to int) int64 {
		n, _ := strconv.ParseInt(digits[from:to], 2, 64)
		return n
	}
	if digits[0] == '1' {
		sign = -1
	}
	exponent, behind := int(part(1, 12)), part(12, 64)
	switch {
	case exponent == 0:
		return sign * math.Ldexp(float64(behind), -1074)
	case exponent < 2047:
		return sign * math.Ldexp(float64(1<<52+behind), exponent-1075)
	case behind == 0:
		return math.Inf(int(sign))
	}
	return math.NaN()
}

// turned tells digits to the base 2, each as the other one.
func turned(digits string) string { return strings.NewReplacer("0", "1", "1", "0").Replace(digits) }

// eight tells a number in eight bytes.
func eight(n *big.Int) string {
	var b [8]byte
	return string(n.FillBytes(b[:]))
}

// toldBytes tells the bytes of parts of the three Kinds as the chapter tells them.
func toldBytes(l []api.Part) (key string) {
	for _, p := range l {
		key += string([]byte{byte(p.Kind)})
		switch p.Kind {
		case 1:
			n := new(big.Int).Lsh(big.NewInt(1), 63)
			key += eight(n.Add(n, big.NewInt(p.N)))
		case 2:
			digits := toldDigits(p.F)
			if digits[0] == '1' {
				digits = turned(digits)
			} else {
				digits = "1" + digits[1:]
			}
			n, _ := new(big.Int).SetString(digits, 2)
			key += eight(n)
		case 3:
			key += strings.ReplaceAll(p.S, "\x00", "\x00\xff") + "\x00\x01"
		}
	}
	return key
}

// runes tells each byte as a rune of that number, so that what looks for runes finds bytes.
func runes(key string) string {
	all := make([]rune, len(key))
	for i := range len(key) {
		all[i] = rune(key[i])
	}
	return string(all)
}

// unruned tells them back.
func unruned(s string) string {
	var b bytes.Buffer
	for _, one := range s {
		b.WriteByte(byte(one))
	}
	return b.String()
}

const partsOf = `\x01(?s:.{8})|\x02(?s:.{8})|\x03(?:[^\x00]|\x00\xff)*\x00\x01`

var (
	toldKeys  = regexp.MustCompile(`\A(?:` + partsOf + `){1,4}\z`)
	toldParts = regexp.MustCompile(partsOf)
)

// toldParse tells the parts of bytes, and whether they are a key's.
func toldParse(key string) (l []api.Part, is bool) {
	if len(key) > 48 || !toldKeys.MatchString(runes(key)) {
		return nil, false
	}
	for _, one := range toldParts.FindAllString(runes(key), -1) {
		one = unruned(one)
		p, behind := api.Part{Kind: api.PartKind(one[0])}, one[1:]
		n := new(big.Int).SetBytes([]byte(behind))
		switch p.Kind {
		case 1:
			p.N = n.Sub(n, new(big.Int).Lsh(big.NewInt(1), 63)).Int64()
		case 2:
			digits := fmt.Sprintf("%064b", n)
			if digits[0] == '0' {
				digits = turned(digits)
			} else {
				digits = "0" + digits[1:]
			}
			p.F = toldNumber(digits)
			if p.F == 0 && digits[0] == '1' || p.F != p.F && digits != "0"+strings.Repeat("1", 12)+strings.Repeat("0", 51) {
				return nil, false
			}
		case 3:
			p.S = strings.ReplaceAll(strings.TrimSuffix(behind, "\x00\x01"), "\x00\xff", "\x00")
		}
		l = append(l, p)
	}
	return l, true
}

// sign tells whether a first thing stands ahead of a second one, or behind it.
func sign(ahead, behind bool) int {
	switch {
	case ahead:
		return -1
	case behind:
		return 1
	}
	return 0
}

// toldStand tells how lists stand, part by part.
func toldStand(a, b []api.Part) int {
	if len(a) == 0 || len(b) == 0 {
		return sign(len(a) < len(b), len(a) > len(b))
	}
	p, q := a[0], b[0]
	n := 0
	switch {
	case p.Kind != q.Kind:
		n = sign(p.Kind < q.Kind, p.Kind > q.Kind)
	case p.Kind == 1:
		n = sign(p.N < q.N, p.N > q.N)
	case p.Kind == 2:
		none, other := p.F != p.F, q.F != q.F
		n = sign(p.F < q.F || other && !none, p.F > q.F || none && !other)
	case p.Kind == 3:
		n = bytes.Compare([]byte(p.S), []byte(q.S))
	}
	if n != 0 {
		return n
	}
	return toldStand(a[1:], b[1:])
}

// wantTold holds what is told of parts against what the chapter tells of them.
func wantTold(t *testing.T, l []api.Part) api.Errno {
	t.Helper()
	e := toldMay(l)
	if e == api.OK {
		wantKey(t, toldBytes(l), l...)
	} else {
		wantNoKey(t, e, l...)
	}
	return e
}

// wantParseTold holds what is told of bytes against what the chapter tells of them.
func wantParseTold(t *testing.T, key string) bool {
	t.Helper()
	want, is := toldParse(key)
	if is {
		wantParse(t, key, want...)
	} else {
		wantNoParse(t, key)
	}
	return is
}

// dice tells numbers that are the same each time.
type dice uint32

func (d *dice) roll(n int) int {
	*d = *d*1664525 + 1013904223
	return int(uint64(bits.RotateLeft32(uint32(*d), 16)) % uint64(n))
}

// pick tells one of some things.
func pick[T any](d *dice, things ...T) T { return things[d.roll(len(things))] }

// word tells any 64 bits, often near an edge.
func (d *dice) word() uint64 {
	n := uint64(d.roll(1<<22))<<42 ^ uint64(d.roll(1<<22))<<21 ^ uint64(d.roll(1<<22))
	edge := pick(d, 0, 1<<63, 0x7ff0<<48, 0xfff0<<48, 0x7ff8<<48, 0xfff8<<48, 0x0010<<48, 0x8010<<48, 0x3ff0<<48, n, n&0xff)
	return pick(d, n, edge, edge+1, edge-1, edge+uint64(d.roll(3)), edge^1<<d.roll(64))
}

// text tells bytes of which many are those that count in a key.
func (d *dice) text(most int) string {
	b := make([]byte, d.roll(most+1))
	for i := range b {
		b[i] = pick(d, 0, 0, 1, 0xff, 2, 'a', 'b', byte(d.roll(256)))
	}
	return string(b)
}

// part tells a part of one of the three Kinds, which has nothing else.
func (d *dice) part(most int) api.Part {
	switch d.roll(4) {
	case 0:
		return api.Part{Kind: api.PartInt, N: int64(d.word())}
	case 1:
		return api.Part{Kind: api.PartFloat, F: math.Float64frombits(d.word())}
	}
	return api.Part{Kind: api.PartText, S: d.text(most)}
}

// parts tells from least to most of them.
func (d *dice) parts(least, most int) (l []api.Part) {
	room := pick(d, 2, 8, 12, 20, 60)
	for range least + d.roll(most-least+1) {
		l = append(l, d.part(room))
	}
	return l
}

// spoil tells parts of which one may have something that its Kind does not have, or be of another Kind.
func (d *dice) spoil(l []api.Part) []api.Part {
	if len(l) == 0 {
		return l
	}
	p := &l[d.roll(len(l))]
	switch d.roll(5) {
	case 0:
		p.N = pick(d, 0, 1, int64(d.word()))
	case 1:
		p.F = pick(d, 0, minusZero, 1, math.Float64frombits(d.word()))
	case 2:
		p.S = d.text(3)
	case 3:
		p.Kind = pick(d, 0, 1, 2, 3, 4, -1, noKinds()[d.roll(len(noKinds()))])
	case 4:
		*p = api.Part{Kind: p.Kind}
	}
	return l
}

// near tells parts that are unlike some in one place, or in none.
func (d *dice) near(l []api.Part) []api.Part {
	l = slices.Clone(l)
	if len(l) == 0 {
		return d.parts(0, 1)
	}
	p := &l[d.roll(len(l))]
	switch d.roll(8) {
	case 0:
		p.N += int64(d.roll(3)) - 1
	case 1:
		p.F = pick(d, -p.F, math.Nextafter(p.F, math.Inf(1)), math.Nextafter(p.F, math.Inf(-1)))
	case 2:
		p.S += d.text(2)
	case 3:
		p.S = p.S[:d.roll(len(p.S)+1)]
	case 4:
		*p = d.part(3)
	case 5:
		return l[:d.roll(len(l)+1)]
	case 6:
		return append(l, d.part(3))
	}
	return l
}

// bend tells a key's bytes that are not quite so any more.
func (d *dice) bend(key string) string {
	b := []byte(key)
	for range d.roll(3) {
		at := d.roll(len(b) + 1)
		one := pick(d, 0, 1, 2, 3, 0xff, byte(d.roll(256)))
		switch d.roll(5) {
		case 0:
			b = slices.Insert(b, at, one)
		case 1:
			b = b[:at]
		case 2:
			b = slices.Delete(b, at, min(at+1, len(b)))
		case 3:
			b = append(b, one)
		default:
			if at < len(b) {
				b[at] = pick(d, one, b[at]+1, b[at]-1, b[at]^1<<d.roll(8))
			}
		}
	}
	return string(b)
}

// The reckoning's own numbers are those that the machine has.
func TestToldDigits(t *testing.T) {
	for seed := range 20000 {
		d := dice(seed)
		word := d.word()
		f := math.Float64frombits(word)
		if f == 0 {
			word = 0
		}
		if f != f {
			word = 0x7ff8 << 48
		}
		if digits := toldDigits(f); digits != fmt.Sprintf("%064b", word) || !alike(list(keys.Float(toldNumber(digits))), list(keys.Float(f))) {
			t.Fatalf("%x: %s, %v", word, digits, toldNumber(digits))
		}
	}
}

func TestNumbersAsTold(t *testing.T) {
	for seed := range 20000 {
		d := dice(seed)
		word := d.word()
		wantTold(t, list(keys.Int(int64(word))))
		wantTold(t, list(keys.Float(math.Float64frombits(word))))
		wantTold(t, []api.Part{{Kind: api.PartFloat, F: math.Float64frombits(word)}})
		for _, kind := range []string{"\x01", "\x02"} {
			key := kind + eight(new(big.Int).SetUint64(word))
			if is := wantParseTold(t, key); !is && kind == "\x01" {
				t.Errorf("%x is no key", key)
			}
		}
		if t.Failed() {
			t.Fatalf("seed %d", seed)
		}
	}
}

// All texts of up to four bytes of those that count.
func TestTextsAsTold(t *testing.T) {
	var last []api.Part
	lastKey := ""
	var further func(s string, left int)
	further = func(s string, left int) {
		l := list(keys.Text(s))
		wantTold(t, l)
		key, _ := keys.Raw(l...)
		if last != nil && (keys.Compare(last, l) >= 0 || lastKey >= key) {
			t.Fatalf("%x does not stand ahead of %x", lastKey, key)
		}
		last, lastKey = l, key
		if left == 0 {
			return
		}
		for _, one := range []string{"\x00", "\x01", "\x02", "a", "\xfe", "\xff"} {
			further(s+one, left-1)
		}
	}
	further("", 4)
}

// All bytes of up to six of those that count.
func TestParseOfShortBytesAsTold(t *testing.T) {
	found := 0
	var further func(key string, left int)
	further = func(key string, left int) {
		if wantParseTold(t, key) {
			found++
		}
		if left == 0 {
			return
		}
		for _, one := range []string{"\x00", "\x01", "\x02", "\x03", "a", "\xff"} {
			further(key+one, left-1)
		}
	}
	further("", 6)
	if found < 100 {
		t.Errorf("just %d keys", found)
	}
}

func TestPartsAsTold(t *testing.T) {
	counts := map[api.Errno]int{}
	for seed := range 60000 {
		d := dice(seed)
		l := d.parts(0, 5)
		counts[wantTold(t, l)]++
		counts[wantTold(t, d.spoil(l))]++
		if t.Failed() {
			t.Fatalf("seed %d", seed)
		}
	}
	for _, e := range []api.Errno{api.OK, api.ErrArg, api.ErrLong} {
		if counts[e] < 5000 {
			t.Errorf("%v just %d times", e, counts[e])
		}
	}
}

func TestParseAsTold(t *testing.T) {
	counts := map[bool]int{}
	for seed := range 60000 {
		d := dice(seed)
		key := toldBytes(d.parts(0, 5))
		counts[wantParseTold(t, key)]++
		counts[wantParseTold(t, d.bend(key))]++
		counts[wantParseTold(t, pick(&d, "\x03", "\x03a", "\x02", "\x01", "")+d.text(pick(&d, 4, 9, 50)))]++
		if t.Failed() {
			t.Fatalf("seed %d", seed)
		}
	}
	for is, count := range counts {
		if count < 5000 {
			t.Errorf("%t just %d times", is, count)
		}
	}
}

// Pairs, and their bytes, if they may be keys: P18.3.
func TestCompareAsTold(t *testing.T) {
	counts := map[int]int{}
	for seed := range 60000 {
		d := dice(seed)
		a := d.parts(0, 5)
		if d.roll(4) == 0 {
			a = d.spoil(a)
		}
		for _, b := range [][]api.Part{d.near(a), d.near(d.near(a)), d.parts(0, 5), d.spoil(slices.Clone(a))} {
			want := toldStand(a, b)
			wantStand(t, want, a, b)
			counts[want]++
			if toldMay(a) != api.OK || toldMay(b) != api.OK {
				continue
			}
			aRaw, _ := keys.Raw(a...)
			bRaw, _ := keys.Raw(b...)
			if n := strings.Compare(aRaw, bRaw); n != want {
				t.Errorf("%x, %x: %d, want %d", aRaw, bRaw, n, want)
			}
			mark, _ := keys.Behind(a...)
			wantBehind(t, mark, a, b)
		}
		if t.Failed() {
			t.Fatalf("seed %d", seed)
		}
	}
	for _, n := range []int{-1, 0, 1} {
		if counts[n] < 5000 {
			t.Errorf("%d just %d times", n, counts[n])
		}
	}
}

// Of three, whatever is in them: what stands ahead of what stands ahead does so, too; and what is alike stands alike.
func TestOrderOfThree(t *testing.T) {
	for seed := range 60000 {
		d := dice(seed)
		a := d.spoil(d.parts(0, 4))
		three := [][]api.Part{a, d.near(a), d.spoil(d.near(a))}
		slices.SortStableFunc(three, keys.Compare)
		first, second := keys.Compare(three[0], three[1]), keys.Compare(three[1], three[2])
		if first > 0 || second > 0 {
			t.Fatalf("seed %d: %d, %d", seed, first, second)
		}
		wantStand(t, min(first, second), three[0], three[2])
		for _, l := range three {
			wantStand(t, 0, l, l)
		}
		if t.Failed() {
			t.Fatalf("seed %d", seed)
		}
	}
}

// Many keys, sorted by their bytes, stand as their parts do.
func TestManyKeysAsTold(t *testing.T) {
	for seed := range 100 {
		d := dice(seed)
		var raws []string
		for len(raws) < 300 {
			if raw, e := keys.Raw(d.parts(1, 4)...); e == api.OK {
				raws = append(raws, raw)
			}
		}
		slices.Sort(raws)
		for i := range len(raws) - 1 {
			a, _ := keys.Parse(raws[i])
			b, _ := keys.Parse(raws[i+1])
			wantStand(t, strings.Compare(raws[i], raws[i+1]), a, b)
		}
		if t.Failed() {
			t.Fatalf("seed %d", seed)
		}
	}
}
