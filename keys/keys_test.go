package keys_test

import (
	"cmp"
	"encoding/hex"
	"fmt"
	"math"
	"slices"
	"strings"
	"testing"
	"unsafe"

	"pigeonry/api"
	"pigeonry/keys"
)

// bytesOf tells bytes by digits to the base 16, in which there may be spaces.
func bytesOf(digits string) string {
	b, err := hex.DecodeString(strings.ReplaceAll(digits, " ", ""))
	if err != nil {
		panic(err)
	}
	return string(b)
}

// of tells a text of so many bytes.
func of(n int) string { return strings.Repeat("x", n) }

// short tells bytes, of many the first ones.
func short(s string) string { return s[:min(len(s), 60)] }

// brief tells parts in few signs, of many the first ones.
func brief(l []api.Part) string {
	s := fmt.Sprintf("%d parts", len(l))
	for _, p := range l[:min(len(l), 6)] {
		s += fmt.Sprintf(" {%d %d %v(%x) %+q}", p.Kind, p.N, p.F, math.Float64bits(p.F), short(p.S))
	}
	return s
}

// list tells parts as a list.
func list(l ...api.Part) []api.Part { return l }

// joined tells lists one behind the other, in memory of its own.
func joined(lists ...[]api.Part) []api.Part { return slices.Concat(lists...) }

var minusZero = math.Copysign(0, -1)

// alike tells whether two lists say the same in all, the signs of 0 among it. All that are no number are the same.
func alike(a, b []api.Part) bool {
	return slices.EqualFunc(a, b, func(a, b api.Part) bool {
		same := math.Float64bits(a.F) == math.Float64bits(b.F) || math.IsNaN(a.F) && math.IsNaN(b.F)
		return a.Kind == b.Kind && a.N == b.N && a.S == b.S && same
	})
}

// plain tells parts as they are read back: with 0 for -0.
func plain(l []api.Part) []api.Part {
	l = slices.Clone(l)
	for i := range l {
		if l[i].F == 0 {
			l[i].F = 0
		}
	}
	return l
}

// wantKey holds what is told of parts that may be a key against its bytes.
func wantKey(t *testing.T, want string, l ...api.Part) {
	t.Helper()
	if e := keys.Check(l...); e != api.OK {
		t.Errorf("Check(%s): %v", brief(l), e)
	}
	if key, e := keys.Raw(l...); key != want || e != api.OK {
		t.Errorf("Raw(%s): %x %v, want %x", brief(l), key, e, want)
	}
	if key, e := keys.Behind(l...); key != want+"\xff" || e != api.OK {
		t.Errorf("Behind(%s): %x %v, want %xff", brief(l), key, e, want)
	}
	if n := keys.Compare(l, slices.Clone(l)); n != 0 {
		t.Errorf("Compare(%s, the same): %d", brief(l), n)
	}
	wantParse(t, want, plain(l)...)
}

func wantNoKey(t *testing.T, want api.Errno, l ...api.Part) {
	t.Helper()
	if e := keys.Check(l...); e != want {
		t.Errorf("Check(%s): %v, want %v", brief(l), e, want)
	}
	if key, e := keys.Raw(l...); key != "" || e != want {
		t.Errorf("Raw(%s): %x %v, want %v", brief(l), short(key), e, want)
	}
	if key, e := keys.Behind(l...); key != "" || e != want {
		t.Errorf("Behind(%s): %x %v, want %v", brief(l), short(key), e, want)
	}
}

// wantParse holds what is read of a key's bytes against its parts, and their bytes against these.
func wantParse(t *testing.T, key string, want ...api.Part) {
	t.Helper()
	l, e := keys.Parse(key)
	if !alike(l, want) || e != api.OK {
		t.Errorf("Parse(%x): %s %v, want %s", short(key), brief(l), e, brief(want))
	}
	if again, e := keys.Raw(l...); again != key || e != api.OK {
		t.Errorf("Raw of Parse(%x): %x %v", short(key), again, e)
	}
}

func wantNoParse(t *testing.T, key string) {
	t.Helper()
	if l, e := keys.Parse(key); len(l) != 0 || e != api.ErrKey {
		t.Errorf("Parse(%x of %d): %s %v, want %v", short(key), len(key), brief(l), e, api.ErrKey)
	}
}

// wantStand holds how two stand against what is wanted, both ways.
func wantStand(t *testing.T, want int, a, b []api.Part) {
	t.Helper()
	if n := keys.Compare(a, b); n != want {
		t.Errorf("Compare(%s, %s): %d, want %d", brief(a), brief(b), n, want)
	}
	if n := keys.Compare(b, a); n != -want {
		t.Errorf("Compare(%s, %s): %d, want %d", brief(b), brief(a), n, -want)
	}
}

// known is a part and its bytes, to the base 16.
type known struct {
	p      api.Part
	digits string
}

// ints rise.
func ints() []known {
	return []known{
		{keys.Int(math.MinInt64), "01 00 00 00 00 00 00 00 00"},
		{keys.Int(math.MinInt64 + 1), "01 00 00 00 00 00 00 00 01"},
		{keys.Int(-1 << 32), "01 7f ff ff ff 00 00 00 00"},
		{keys.Int(-256), "01 7f ff ff ff ff ff ff 00"},
		{keys.Int(-2), "01 7f ff ff ff ff ff ff fe"},
		{keys.Int(-1), "01 7f ff ff ff ff ff ff ff"},
		{keys.Int(0), "01 80 00 00 00 00 00 00 00"},
		{keys.Int(1), "01 80 00 00 00 00 00 00 01"},
		{keys.Int(2), "01 80 00 00 00 00 00 00 02"},
		{keys.Int(255), "01 80 00 00 00 00 00 00 ff"},
		{keys.Int(256), "01 80 00 00 00 00 00 01 00"},
		{keys.Int(1 << 32), "01 80 00 00 01 00 00 00 00"},
		{keys.Int(0x0102030405060708), "01 81 02 03 04 05 06 07 08"},
		{keys.Int(math.MaxInt64 - 1), "01 ff ff ff ff ff ff ff fe"},
		{keys.Int(math.MaxInt64), "01 ff ff ff ff ff ff ff ff"},
	}
}

// floats rise, up to what is no number.
func floats() []known {
	return []known{
		{keys.Float(math.Inf(-1)), "02 00 0f ff ff ff ff ff ff"},
		{keys.Float(-math.MaxFloat64), "02 00 10 00 00 00 00 00 00"},
		{keys.Float(-2.5), "02 3f fb ff ff ff ff ff ff"},
		{keys.Float(-1), "02 40 0f ff ff ff ff ff ff"},
		{keys.Float(-0x1p-1022), "02 7f ef ff ff ff ff ff ff"},
		{keys.Float(-math.SmallestNonzeroFloat64), "02 7f ff ff ff ff ff ff fe"},
		{keys.Float(0), "02 80 00 00 00 00 00 00 00"},
		{keys.Float(math.SmallestNonzeroFloat64), "02 80 00 00 00 00 00 00 01"},
		{keys.Float(0x1p-1022), "02 80 10 00 00 00 00 00 00"},
		{keys.Float(0.1), "02 bf b9 99 99 99 99 99 9a"},
		{keys.Float(1), "02 bf f0 00 00 00 00 00 00"},
		{keys.Float(1.5), "02 bf f8 00 00 00 00 00 00"},
		{keys.Float(1 << 53), "02 c3 40 00 00 00 00 00 00"},
		{keys.Float(math.MaxFloat64), "02 ff ef ff ff ff ff ff ff"},
		{keys.Float(math.Inf(1)), "02 ff f0 00 00 00 00 00 00"},
		{keys.Float(math.NaN()), "02 ff f8 00 00 00 00 00 00"},
	}
}

// texts rise.
func texts() []known {
	return []known{
		{keys.Text(""), "03 00 01"},
		{keys.Text("\x00"), "03 00 ff 00 01"},
		{keys.Text("\x00\x00"), "03 00 ff 00 ff 00 01"},
		{keys.Text("\x00\x01"), "03 00 ff 01 00 01"},
		{keys.Text("\x00\xff"), "03 00 ff ff 00 01"},
		{keys.Text("\x01"), "03 01 00 01"},
		{keys.Text("\x01\x00"), "03 01 00 ff 00 01"},
		{keys.Text("a"), "03 61 00 01"},
		{keys.Text("a\x00"), "03 61 00 ff 00 01"},
		{keys.Text("a\x00b"), "03 61 00 ff 62 00 01"},
		{keys.Text("a\x01"), "03 61 01 00 01"},
		{keys.Text("ab"), "03 61 62 00 01"},
		{keys.Text("b"), "03 62 00 01"},
		{keys.Text("\x7f"), "03 7f 00 01"},
		{keys.Text("\x80"), "03 80 00 01"},
		{keys.Text("\xc3\x28"), "03 c3 28 00 01"},
		{keys.Text("ä"), "03 c3 a4 00 01"},
		{keys.Text("\xff"), "03 ff 00 01"},
		{keys.Text("\xff\x00\xff"), "03 ff 00 ff ff 00 01"},
		{keys.Text("\xff\xff"), "03 ff ff 00 01"},
	}
}

// all rise: parts of unlike Kinds stand by these.
func all() []known { return slices.Concat(ints(), floats(), texts()) }

// noNumbers are bits of no number, of either sign.
func noNumbers() []uint64 {
	return []uint64{
		0x7ff8000000000000, 0x7ff8000000000001, 0x7ff0000000000001, 0x7ff4000000000000, 0x7ff7ffffffffffff, 0x7fffffffffffffff, 0x7ff8dead0000beef,
		0xfff8000000000000, 0xfff8000000000001, 0xfff0000000000001, 0xfff4000000000000, 0xfff7ffffffffffff, 0xffffffffffffffff, 0xfff8dead0000beef,
	}
}

// noKinds are Kinds that are none, rising.
func noKinds() []api.PartKind {
	return []api.PartKind{math.MinInt, math.MinInt + 1, -256, -1, 0, 4, 5, 255, 256, 257, 259, 1 << 32, 1<<32 + 1, math.MaxInt - 1, math.MaxInt}
}

func TestExamples(t *testing.T) {
	wantKey(t, bytesOf("01 80 00 00 00 00 00 00 01"), keys.Int(1))
	wantKey(t, bytesOf("03 61 00 ff 00 01"), keys.Text("a\x00"))
	wantKey(t, bytesOf("02 80 00 00 00 00 00 00 00"), keys.Float(0))
	wantKey(t, bytesOf("02 40 0f ff ff ff ff ff ff"), keys.Float(-1))
	if n := keys.Compare(list(keys.Float(math.NaN())), list(keys.Float(math.Inf(1)))); n != 1 {
		t.Errorf("Compare: %d", n)
	}
	wantNoParse(t, bytesOf("03 61"))
	if key, e := keys.Raw(); key != "" || e != api.ErrArg {
		t.Errorf("Raw: %x %v", key, e)
	}
}

// P18.1: Int, Float, Text

func TestInt(t *testing.T) {
	for _, n := range []int64{math.MinInt64, math.MinInt64 + 1, -1, 0, 1, math.MaxInt64 - 1, math.MaxInt64} {
		if p := keys.Int(n); p != (api.Part{Kind: 1, N: n}) {
			t.Errorf("Int(%d): %s", n, brief(list(p)))
		}
	}
}

func TestFloat(t *testing.T) {
	for _, f := range []float64{0, 1, -1, 0.1, math.MaxFloat64, -math.MaxFloat64, math.SmallestNonzeroFloat64, -math.SmallestNonzeroFloat64, math.Inf(1), math.Inf(-1)} {
		if p := keys.Float(f); !alike(list(p), []api.Part{{Kind: 2, F: f}}) {
			t.Errorf("Float(%v): %s", f, brief(list(p)))
		}
	}
}

func TestFloatOfMinusZero(t *testing.T) {
	if p := keys.Float(minusZero); !alike(list(p), []api.Part{{Kind: 2}}) {
		t.Errorf("Float(-0): %s", brief(list(p)))
	}
}

func TestFloatOfNoNumber(t *testing.T) {
	for _, bits := range noNumbers() {
		if p := keys.Float(math.Float64frombits(bits)); !math.IsNaN(p.F) || p.Kind != 2 || p.N != 0 || p.S != "" {
			t.Errorf("Float of the bits %x: %s", bits, brief(list(p)))
		}
	}
}

func TestText(t *testing.T) {
	for _, s := range []string{"", "\x00", "\xff", "\x00\x00", "\x00\xff", "\x00\x01", "\x01", "a", "ä", "\xc3\x28", "\xed\xa0\x80", of(48), of(1 << 20)} {
		if p := keys.Text(s); p != (api.Part{Kind: 3, S: s}) {
			t.Errorf("Text(%x): %s", short(s), brief(list(p)))
		}
	}
}

// P18.1: Check, Raw, and Parse of what is told by Raw; P18.2: Behind

func TestOfOnePart(t *testing.T) {
	for _, k := range all() {
		wantKey(t, bytesOf(k.digits), k.p)
	}
}

func TestOfSeveralParts(t *testing.T) {
	wantKey(t, bytesOf("03 61 00 01"+"01 80 00 00 00 00 00 00 07"), keys.Text("a"), keys.Int(7))
	wantKey(t, bytesOf("01 80 00 00 00 00 00 00 07"+"03 61 00 01"), keys.Int(7), keys.Text("a"))
	wantKey(t, bytesOf("03 00 01"+"03 00 01"+"03 00 01"+"03 00 01"), keys.Text(""), keys.Text(""), keys.Text(""), keys.Text(""))
	wantKey(t, bytesOf("03 00 ff 00 01"+"02 bf f8 00 00 00 00 00 00"+"03 01 00 01"+"01 7f ff ff ff ff ff ff ff"), keys.Text("\x00"), keys.Float(1.5), keys.Text("\x01"), keys.Int(-1))
	l, want := list(), ""
	for _, k := range []known{ints()[0], floats()[0], ints()[len(ints())-1], floats()[len(floats())-1]} {
		l, want = append(l, k.p), want+bytesOf(k.digits)
		wantKey(t, want, l...)
	}
}

// Each part stands at each place of keys of each count.
func TestOfEachPartAtEachPlace(t *testing.T) {
	for _, k := range all() {
		for count := 1; count <= 4; count++ {
			for place := range count {
				l, want := list(), ""
				for i := range count {
					one := known{keys.Text("a"), "03 61 00 01"}
					if i == place {
						one = k
					}
					l, want = append(l, one.p), want+bytesOf(one.digits)
				}
				wantKey(t, want, l...)
			}
		}
	}
}

func TestOfTooFewPartsOrTooMany(t *testing.T) {
	wantNoKey(t, api.ErrArg)
	wantNoKey(t, api.ErrArg, nil...)
	wantNoKey(t, api.ErrArg, list()...)
	for _, p := range []api.Part{keys.Text(""), keys.Int(0), keys.Float(1), keys.Text("ab")} {
		for count := 1; count <= 4; count++ {
			if e := keys.Check(slices.Repeat(list(p), count)...); e != api.OK {
				t.Errorf("Check of %d: %v", count, e)
			}
		}
		for _, count := range []int{5, 6, 8, 16, 257, 100000} {
			wantNoKey(t, api.ErrArg, slices.Repeat(list(p), count)...)
		}
	}
}

func TestOfKindsThatAreNone(t *testing.T) {
	for _, kind := range noKinds() {
		for _, p := range []api.Part{{Kind: kind}, {Kind: kind, N: 1}, {Kind: kind, F: 1}, {Kind: kind, S: "x"}} {
			for count := 1; count <= 5; count++ {
				for place := range count {
					l := slices.Repeat(list(keys.Text("a")), count)
					l[place] = p
					wantNoKey(t, api.ErrArg, l...)
				}
			}
		}
	}
}

// elses are parts that have something that their Kind does not have.
func elses() []api.Part {
	l := list()
	for _, n := range []int64{1, -1, math.MinInt64, math.MaxInt64} {
		l = append(l, api.Part{Kind: api.PartFloat, N: n}, api.Part{Kind: api.PartFloat, N: n, F: 1}, api.Part{Kind: api.PartFloat, N: n, F: math.NaN()}, api.Part{Kind: api.PartText, N: n}, api.Part{Kind: api.PartText, N: n, S: "a"})
	}
	for _, f := range []float64{1, -1, math.SmallestNonzeroFloat64, -math.SmallestNonzeroFloat64, math.Inf(1), math.Inf(-1), math.NaN(), math.Float64frombits(0xffffffffffffffff)} {
		l = append(l, api.Part{Kind: api.PartInt, F: f}, api.Part{Kind: api.PartInt, N: 1, F: f}, api.Part{Kind: api.PartText, F: f}, api.Part{Kind: api.PartText, F: f, S: "a"})
	}
	for _, s := range []string{"a", "\x00", of(100)} {
		l = append(l, api.Part{Kind: api.PartInt, S: s}, api.Part{Kind: api.PartInt, N: 1, S: s}, api.Part{Kind: api.PartFloat, S: s}, api.Part{Kind: api.PartFloat, F: 1, S: s}, api.Part{Kind: api.PartFloat, F: math.NaN(), S: s})
	}
	return append(l, api.Part{Kind: api.PartInt, N: 1, F: 1, S: "a"}, api.Part{Kind: api.PartFloat, N: 1, F: 1, S: "a"}, api.Part{Kind: api.PartText, N: 1, F: 1, S: "a"})
}

func TestOfPartsThatHaveSomethingElse(t *testing.T) {
	for _, p := range elses() {
		for count := 1; count <= 4; count++ {
			for place := range count {
				l := slices.Repeat(list(keys.Text("a")), count)
				l[place] = p
				wantNoKey(t, api.ErrArg, l...)
			}
		}
	}
}

// -0 and 0 are one: it is zero, where a Kind has no number F.
func TestMinusZeroIsZero(t *testing.T) {
	wantKey(t, bytesOf("01 80 00 00 00 00 00 00 01"), api.Part{Kind: api.PartInt, N: 1, F: minusZero})
	wantKey(t, bytesOf("03 61 00 01"), api.Part{Kind: api.PartText, S: "a", F: minusZero})
	wantKey(t, bytesOf("02 80 00 00 00 00 00 00 00"), api.Part{Kind: api.PartFloat, F: minusZero})
}

func TestOfNoNumber(t *testing.T) {
	for _, bits := range noNumbers() {
		f := math.Float64frombits(bits)
		wantKey(t, bytesOf("02 ff f8 00 00 00 00 00 00"), api.Part{Kind: api.PartFloat, F: f})
		wantKey(t, bytesOf("02 ff f8 00 00 00 00 00 00"), keys.Float(f))
		wantKey(t, bytesOf("03 00 01 02 ff f8 00 00 00 00 00 00 03 00 01"), keys.Text(""), keys.Float(f), keys.Text(""))
	}
	l, _ := keys.Parse(bytesOf("02 ff f8 00 00 00 00 00 00"))
	if len(l) != 1 || math.Float64bits(l[0].F) != 0x7ff8000000000000 {
		t.Errorf("Parse: %s", brief(l))
	}
}

func TestOfAsManyBytesAsMayBe(t *testing.T) {
	i, f := keys.Int(1), keys.Float(1)
	for _, x := range []struct {
		ahead  []api.Part
		text   string // with it the key has just MaxKey bytes
		behind []api.Part
	}{
		{nil, of(45), nil},
		{nil, strings.Repeat("\x00", 22) + "x", nil},
		{nil, "x" + strings.Repeat("\x00", 22), nil},
		{nil, strings.Repeat("\x00", 20) + "\xff\x01\xffab", nil},
		{list(i), of(36), nil},
		{list(f), strings.Repeat("\x00", 18), nil},
		{list(i, f), of(27), nil},
		{list(i, f, i), of(18), nil},
		{list(f, f, f), strings.Repeat("\x00", 9), nil},
		{nil, of(18), list(f, i, f)},
		{list(keys.Text("")), of(33), list(i)},
		{list(keys.Text("")), of(36), list(keys.Text(""), keys.Text(""))},
		{list(keys.Text("\x00")), strings.Repeat("\x00", 18) + "a", list(keys.Text(""))},
	} {
		l := joined(x.ahead, list(keys.Text(x.text)), x.behind)
		key, e := keys.Raw(l...)
		if len(key) != api.MaxKey || e != api.OK {
			t.Errorf("Raw(%s): %d bytes, %v", brief(l), len(key), e)
		}
		wantKey(t, key, l...)
		for _, more := range []string{"x", "\x00", "\xff", "xx", of(2), of(48), of(1000), of(1 << 20), strings.Repeat("\x00", 1<<20)} {
			wantNoKey(t, api.ErrLong, joined(x.ahead, list(keys.Text(x.text+more)), x.behind)...)
		}
	}
}

func TestFarTooLongTexts(t *testing.T) {
	for _, s := range []string{of(46), of(47), of(48), of(49), strings.Repeat("\x00", 23), strings.Repeat("\x00", 24), strings.Repeat("\x00", 48), "x" + strings.Repeat("\x00", 44), of(1 << 24), strings.Repeat("\x00", 1<<24)} {
		for count := 1; count <= 4; count++ {
			wantNoKey(t, api.ErrLong, slices.Repeat(list(keys.Text(s)), count)...)
		}
	}
}

// What may not be is told ahead of what is too long.
func TestErrorsInTheirOrder(t *testing.T) {
	long := keys.Text(of(100))
	for _, p := range append(elses(), api.Part{}, api.Part{Kind: 4}, api.Part{Kind: -1, S: of(100)}, api.Part{Kind: api.PartText, N: 1, S: of(100)}) {
		wantNoKey(t, api.ErrArg, long, p)
		wantNoKey(t, api.ErrArg, p, long)
		wantNoKey(t, api.ErrArg, long, keys.Int(1), long, p)
	}
	wantNoKey(t, api.ErrArg, long, long, long, long, long)
	wantNoKey(t, api.ErrLong, long, long, long, long)
	wantNoKey(t, api.ErrArg, keys.Int(1), keys.Int(1), keys.Int(1), keys.Int(1), long)
}

// P18.1: Parse

func TestParseOfNoBytes(t *testing.T) {
	wantNoParse(t, "")
}

// longer are keys of several parts.
func longer() [][]known {
	i, f, s := ints(), floats(), texts()
	return [][]known{
		{s[0], s[0]},
		{s[7], i[7]},
		{i[0], f[0]},
		{f[15], s[18], i[14]},
		{s[1], s[2], s[3], s[4]},
		{i[5], f[3], i[13], s[8]},
		{s[17], f[6], s[0], i[0]},
		{f[13], f[14], f[5], f[7]},
	}
}

// line tells the parts and the bytes of some, one behind the other, and where each one ends.
func line(some ...known) (l []api.Part, key string, ends []int) {
	for _, k := range some {
		l, key = append(l, k.p), key+bytesOf(k.digits)
		ends = append(ends, len(key))
	}
	return l, key, ends
}

// A key that is cut within a part is none. Cut behind one, it says the parts up to there.
func TestParseOfWhatIsCut(t *testing.T) {
	lines := longer()
	for _, k := range all() {
		lines = append(lines, []known{k})
	}
	for _, some := range lines {
		l, key, ends := line(some...)
		wantKey(t, key, l...)
		for cut := range len(key) {
			if at := slices.Index(ends, cut); at >= 0 {
				wantParse(t, key[:cut], l[:at+1]...)
			} else {
				wantNoParse(t, key[:cut])
			}
		}
	}
}

func TestParseOfWhatHasMoreBehind(t *testing.T) {
	for _, k := range all() {
		for one := range 256 {
			wantNoParse(t, bytesOf(k.digits)+string([]byte{byte(one)}))
		}
		for _, more := range []string{"00 01", "00 ff", "ff ff", "00 00", "01 00 01", "02 00 01", "00 00 01", "04 00 01", "03 61", "01 80 00 00 00 00 00 00", "00 80 00 00 00 00 00 00 00"} {
			wantNoParse(t, bytesOf(k.digits+more))
		}
		wantParse(t, bytesOf(k.digits+"03 00 01"), k.p, keys.Text(""))
	}
}

func TestParseOfKindsThatAreNone(t *testing.T) {
	for kind := range 256 {
		if kind >= 1 && kind <= 3 {
			continue
		}
		one := string([]byte{byte(kind)})
		for _, behind := range []string{"", "00 01", "61 00 01", "80 00 00 00 00 00 00 00", "80 00 00 00 00 00 00 00 01"} {
			for _, ahead := range []string{"", "03 00 01", "01 80 00 00 00 00 00 00 00", "03 00 01 03 00 01 03 00 01", "03 00 01 03 00 01 03 00 01 03 00 01"} {
				wantNoParse(t, bytesOf(ahead)+one+bytesOf(behind))
			}
		}
	}
}

func TestParseOfWhatFollowsNought(t *testing.T) {
	for one := range 256 {
		b := string([]byte{byte(one)})
		at, in := "\x03a\x00"+b+"\x00\x01", "\x03\x00"+b+"b\x00\x01"
		switch one {
		case 0xff:
			wantParse(t, at, keys.Text("a\x00"))
			wantParse(t, in, keys.Text("\x00b"))
			wantNoParse(t, "\x03a\x00"+b)
		case 0x01:
			wantNoParse(t, at)
			wantNoParse(t, in)
			wantParse(t, "\x03a\x00"+b, keys.Text("a"))
		default:
			wantNoParse(t, at)
			wantNoParse(t, in)
			wantNoParse(t, "\x03a\x00"+b)
		}
	}
}

func TestParseOfTextsThatDoNotEnd(t *testing.T) {
	for _, digits := range []string{
		"03", "03 00", "03 01", "03 61", "03 61 00", "03 ff", "03 00 ff", "03 00 ff 00", "03 00 ff 01", "03 61 00 ff", "03 61 01", "03 61 00 ff 01", "03 00 ff 00 ff",
		"03 00 01 03", "03 00 01 03 61 00", "01 80 00 00 00 00 00 00 00 03 01",
	} {
		wantNoParse(t, bytesOf(digits))
	}
	for n := 1; n <= 60; n++ {
		wantNoParse(t, "\x03"+of(n))
	}
}

func TestParseOfBitsThatNoNumberHas(t *testing.T) {
	for _, digits := range []string{
		"7f ff ff ff ff ff ff ff",                                                                                  // -0
		"ff f8 00 00 00 00 00 01", "ff f0 00 00 00 00 00 01", "ff f7 ff ff ff ff ff ff", "ff ff ff ff ff ff ff ff", // no number, but written otherwise
		"00 07 ff ff ff ff ff ff", "00 07 ff ff ff ff ff fe", "00 0f ff ff ff ff ff fe", "00 08 00 00 00 00 00 00", "00 00 00 00 00 00 00 00",
		"ff f4 00 00 00 00 00 00", "ff f8 00 00 00 00 00 02", "ff fc 00 00 00 00 00 00", "ff f8 de ad 00 00 be ef",
	} {
		for _, ahead := range []string{"", "03 00 01", "02 80 00 00 00 00 00 00 00", "03 00 01 03 00 01 03 00 01"} {
			wantNoParse(t, bytesOf(ahead+"02"+digits))
			wantNoParse(t, bytesOf(ahead+"02"+digits+"03 00 01"))
		}
		wantParse(t, bytesOf("03"+strings.ReplaceAll(digits, "00", "01")+"00 01"), keys.Text(bytesOf(strings.ReplaceAll(digits, "00", "01"))))
	}
}

func TestParseOfTooManyParts(t *testing.T) {
	for _, k := range []known{texts()[0], texts()[7], ints()[0], ints()[7], floats()[3]} {
		one := bytesOf(k.digits)
		wantParse(t, strings.Repeat(one, 4), slices.Repeat(list(k.p), 4)...)
		for _, count := range []int{5, 6, 8, 12, 16, 100000} {
			wantNoParse(t, strings.Repeat(one, count))
		}
	}
}

func TestParseOfTooManyBytes(t *testing.T) {
	three := strings.Repeat(bytesOf("01 80 00 00 00 00 00 00 00"), 3)
	zero := keys.Int(0)
	wantParse(t, "\x03"+of(45)+"\x00\x01", keys.Text(of(45)))
	wantParse(t, three+"\x03"+of(18)+"\x00\x01", zero, zero, zero, keys.Text(of(18)))
	wantParse(t, "\x03"+strings.Repeat("\x00\xff", 22)+"x\x00\x01", keys.Text(strings.Repeat("\x00", 22)+"x"))
	for _, n := range []int{46, 47, 48, 100, 1 << 20} {
		wantNoParse(t, "\x03"+of(n)+"\x00\x01")
		wantNoParse(t, "\x03"+strings.Repeat("\x00\xff", n)+"\x00\x01")
		wantNoParse(t, three+"\x03"+of(n-27)+"\x00\x01")
		wantNoParse(t, of(n+3))
	}
	wantNoParse(t, "\x03"+strings.Repeat("\x00\xff", 23)+"\x00\x01")
}

// P18.2: Compare

// Any two of many lists that rise.
func TestCompareOfListsThatRise(t *testing.T) {
	lists := [][]api.Part{nil}
	for _, k := range all() {
		lists = append(lists, list(k.p), list(k.p, keys.Int(-5)), list(k.p, keys.Int(-5), keys.Text("")), list(k.p, keys.Float(math.NaN())), list(k.p, keys.Text("")), list(k.p, keys.Text("\x00")))
	}
	for i, a := range lists {
		for j, b := range lists {
			wantStand(t, cmp.Compare(i, j), a, b)
			aRaw, _ := keys.Raw(a...)
			bRaw, _ := keys.Raw(b...)
			if n := cmp.Compare(aRaw, bRaw); n != cmp.Compare(i, j) {
				t.Errorf("bytes of %s, %s: %d", brief(a), brief(b), n)
			}
		}
	}
}

func TestCompareOfNoParts(t *testing.T) {
	wantStand(t, 0, nil, nil)
	wantStand(t, 0, nil, list())
	wantStand(t, 0, []api.Part{}, list())
	for _, p := range []api.Part{keys.Int(math.MinInt64), keys.Float(math.Inf(-1)), keys.Text(""), {}, {Kind: math.MinInt}, {Kind: math.MaxInt}} {
		wantStand(t, -1, nil, list(p))
		wantStand(t, -1, []api.Part{}, list(p, p))
	}
}

func TestCompareOfUnlikeKinds(t *testing.T) {
	wantStand(t, -1, list(keys.Int(math.MaxInt64)), list(keys.Float(math.Inf(-1))))
	wantStand(t, -1, list(keys.Int(1)), list(keys.Float(0)))
	wantStand(t, -1, list(keys.Float(math.NaN())), list(keys.Text("")))
	wantStand(t, -1, list(keys.Int(9)), list(keys.Text("")))
	wantStand(t, 1, list(keys.Float(0), keys.Int(1)), list(keys.Int(9), keys.Int(9)))
}

func TestCompareAroundZero(t *testing.T) {
	ps := list(keys.Float(0), keys.Float(minusZero), api.Part{Kind: api.PartFloat, F: minusZero}, api.Part{Kind: api.PartFloat})
	for _, p := range ps {
		for _, q := range ps {
			wantStand(t, 0, list(p), list(q))
			wantStand(t, -1, list(p, keys.Int(1)), list(q, keys.Int(2)))
		}
		wantStand(t, -1, list(p), list(keys.Float(math.SmallestNonzeroFloat64)))
		wantStand(t, 1, list(p), list(keys.Float(-math.SmallestNonzeroFloat64)))
	}
}

func TestCompareOfNoNumbers(t *testing.T) {
	for _, a := range noNumbers() {
		p := api.Part{Kind: api.PartFloat, F: math.Float64frombits(a)}
		for _, b := range noNumbers() {
			q := api.Part{Kind: api.PartFloat, F: math.Float64frombits(b)}
			wantStand(t, 0, list(p), list(q))
			wantStand(t, 1, list(p, keys.Int(1)), list(q))
			wantStand(t, -1, list(p, keys.Int(1)), list(q, keys.Int(2)))
		}
		for _, f := range []float64{math.Inf(-1), -math.MaxFloat64, -1, 0, minusZero, 1, math.MaxFloat64, math.Inf(1)} {
			wantStand(t, 1, list(p), list(keys.Float(f)))
		}
	}
}

func TestCompareOfTexts(t *testing.T) {
	for _, x := range []struct {
		want int
		a, b string
	}{
		{0, "", ""}, {-1, "", "\x00"}, {-1, "a", "a\x00"}, {-1, "a", "ab"}, {-1, "ab", "b"}, {1, "a\x01", "a\x00\xff"}, {-1, "\x7f", "\x80"}, {-1, "z", "ä"}, {-1, "\xc3\x28", "\xc3\xa4"}, {1, "\xff", "\xfe\xff"},
		{0, of(1000), of(1000)}, {-1, of(1000), of(1001)}, {-1, of(1000) + "a", of(1000) + "b"}, {1, "y", of(1000)},
	} {
		wantStand(t, x.want, list(keys.Text(x.a)), list(keys.Text(x.b)))
		wantStand(t, x.want, list(keys.Int(1), keys.Text(x.a)), list(keys.Int(1), keys.Text(x.b)))
	}
}

// A part that is unlike counts ahead of all that stand behind it, and ahead of how many there are.
func TestCompareOfRuns(t *testing.T) {
	one, two, three := keys.Int(1), keys.Int(2), keys.Int(3)
	wantStand(t, -1, list(one), list(one, one))
	wantStand(t, -1, list(one, two), list(one, two, keys.Int(math.MinInt64)))
	wantStand(t, -1, list(one, three, three), list(two))
	wantStand(t, -1, list(one, two, three), list(one, three, one))
	wantStand(t, 1, list(one, two), list(one, one, three, three))
	wantStand(t, -1, list(one, two, three, one), list(one, two, three, two))
	wantStand(t, -1, list(keys.Text("a"), keys.Text("z")), list(keys.Text("aa"), keys.Text("")))
	many := slices.Repeat(list(one), 100000)
	wantStand(t, 0, many, slices.Clone(many))
	wantStand(t, -1, many, append(slices.Clone(many), one))
	wantStand(t, -1, append(slices.Clone(many), one), append(slices.Clone(many), two))
}

// All of a Kind that is none are alike, and stand by their Kinds, as others do.
func TestCompareOfKindsThatAreNone(t *testing.T) {
	for i, a := range noKinds() {
		for j, b := range noKinds() {
			wantStand(t, cmp.Compare(i, j), list(api.Part{Kind: a}), list(api.Part{Kind: b}))
			wantStand(t, cmp.Compare(i, j), list(api.Part{Kind: a, N: 2, F: 2, S: "b"}), list(api.Part{Kind: b, N: 1, F: math.NaN(), S: "a"}))
		}
		for _, k := range all() {
			wantStand(t, cmp.Compare(a, k.p.Kind), list(api.Part{Kind: a, N: k.p.N, F: k.p.F, S: k.p.S}), list(k.p))
		}
		wantStand(t, -1, list(api.Part{Kind: a, N: 9}, keys.Int(1)), list(api.Part{Kind: a}, keys.Int(2)))
		wantStand(t, -1, list(api.Part{Kind: a, N: 9}), list(api.Part{Kind: a}, api.Part{Kind: a}))
	}
}

// What a part has that its Kind does not have does not count.
func TestCompareOfPartsThatHaveSomethingElse(t *testing.T) {
	for _, p := range elses() {
		q := api.Part{Kind: p.Kind}
		switch p.Kind {
		case api.PartInt:
			q.N = p.N
		case api.PartFloat:
			q.F = p.F
		case api.PartText:
			q.S = p.S
		}
		wantStand(t, 0, list(p), list(q))
		wantStand(t, -1, list(p, keys.Int(1)), list(q, keys.Int(2)))
	}
}

func TestCompareOfKeysThatAreTooLong(t *testing.T) {
	a := list(keys.Text(of(100)), keys.Int(1), keys.Int(2), keys.Int(3), keys.Int(4))
	b := list(keys.Text(of(100)), keys.Int(1), keys.Int(2), keys.Int(3), keys.Int(5))
	wantStand(t, -1, a, b)
	wantStand(t, 0, a, slices.Clone(a))
	wantStand(t, -1, a[:4], a)
}

// P18.2: Behind

func TestBehind(t *testing.T) {
	for _, some := range append(longer(), []known{texts()[0]}, []known{texts()[19]}, []known{ints()[14]}, []known{floats()[15]}) {
		l, key, _ := line(some...)
		mark, e := keys.Behind(l...)
		if mark != key+"\xff" || e != api.OK {
			t.Errorf("Behind(%s): %x %v", brief(l), mark, e)
		}
		wantNoParse(t, mark)
		for _, k := range all() {
			wantBehind(t, mark, l, list(k.p))
			for from := range l {
				wantBehind(t, mark, l, joined(l[:from], list(k.p)))
				wantBehind(t, mark, l, joined(l[:from+1], list(k.p)))
			}
		}
	}
}

// wantBehind holds how a key stands to what stands behind all that begin with some parts against what is wanted of it.
func wantBehind(t *testing.T, mark string, begin, l []api.Part) {
	t.Helper()
	key, e := keys.Raw(l...)
	if e != api.OK {
		return // it is none
	}
	begins := len(l) >= len(begin) && keys.Compare(begin, l[:len(begin)]) == 0
	if ahead := begins || keys.Compare(l, begin) <= 0; ahead != (key < mark) || key == mark {
		t.Errorf("behind %s: %s, %x to %x", brief(begin), brief(l), key, mark)
	}
}

// The bound is that of the key: one of MaxKey bytes has bytes behind it, too.
func TestBehindOfAsManyBytesAsMayBe(t *testing.T) {
	for _, l := range [][]api.Part{list(keys.Text(of(45))), list(keys.Int(1), keys.Float(1), keys.Int(1), keys.Text(of(18)))} {
		if mark, e := keys.Behind(l...); len(mark) != api.MaxKey+1 || e != api.OK {
			t.Errorf("Behind(%s): %d bytes, %v", brief(l), len(mark), e)
		}
	}
	wantNoKey(t, api.ErrLong, keys.Text(of(46)))
}

// P18.3: what is told by Raw is told back by Parse

func TestParseOfRaw(t *testing.T) {
	for _, a := range all() {
		for _, b := range all() {
			wantKey(t, bytesOf(a.digits+b.digits), a.p, b.p)
			wantKey(t, bytesOf("03 00 01"+a.digits+b.digits), keys.Text(""), a.p, b.p)
		}
	}
}

// Rules that hold everywhere

func TestWhatIsHandedInIsNotChanged(t *testing.T) {
	for _, l := range [][]api.Part{
		list(keys.Int(1), keys.Float(2), keys.Text("a\x00")),
		{{Kind: api.PartFloat, F: minusZero}, {Kind: api.PartFloat, F: math.Float64frombits(0xfff8000000000001)}, {Kind: api.PartInt, N: -1, F: minusZero}},
		{{Kind: api.PartInt, N: 1, F: 2, S: "x"}, {Kind: 9, N: 1}},
		list(keys.Text(of(100))),
	} {
		room := append(slices.Clone(l), slices.Repeat(list(keys.Text("room")), 6)...)
		was, handed := slices.Clone(room), room[:len(l)]
		keys.Check(handed...)
		keys.Raw(handed...)
		keys.Behind(handed...)
		keys.Compare(handed, handed)
		keys.Compare(handed, handed[:1])
		if !alike(room, was) {
			t.Errorf("%s, was %s", brief(room), brief(was))
		}
	}
}

func TestAnswersAreNewMemory(t *testing.T) {
	key := strings.Clone("\x03abc\x00\x01\x03abc\x00\x01\x03abcabcabc\x00\x01")
	one, _ := keys.Parse(key)
	two, _ := keys.Parse(key)
	if len(one) != 3 || len(two) != 3 {
		t.Fatalf("Parse: %s, %s", brief(one), brief(two))
	}
	seen := map[*byte]bool{}
	for _, p := range joined(one, two) {
		at := unsafe.StringData(p.S)
		from, place := uintptr(unsafe.Pointer(unsafe.StringData(key))), uintptr(unsafe.Pointer(at))
		if seen[at] || place >= from && place < from+uintptr(len(key)) {
			t.Errorf("%q is not of its own memory", p.S)
		}
		seen[at] = true
	}
	one[0] = keys.Int(9)
	_ = append(one[:1], keys.Int(9))
	wantParse(t, key, two...)
	if s := strings.Clone("abc"); unsafe.StringData(keys.Text(s).S) == unsafe.StringData(s) {
		t.Errorf("Text is not of its own memory")
	}
}
