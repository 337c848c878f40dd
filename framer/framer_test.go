package framer_test

import (
	"bytes"
	"encoding/hex"
	"math"
	"slices"
	"strings"
	"testing"

	"pigeonry/api"
	"pigeonry/framer"
	"pigeonry/packet"
)

// bytesOf tells bytes by their digits to the base 16, between which there may be spaces.
func bytesOf(digits string) []byte {
	b, err := hex.DecodeString(strings.ReplaceAll(digits, " ", ""))
	if err != nil {
		panic(err)
	}
	return b
}

// joined tells bytes, one behind the other, in memory of their own.
func joined(parts ...[]byte) []byte { return slices.Concat(parts...) }

// short tells as many bytes as a message has room for.
func short(b []byte) []byte { return b[:min(len(b), 40)] }

// known is a packet and its bytes.
type known struct {
	p api.Pack
	b []byte
}

func want(filter string, qos int) api.Want { return api.Want{Filter: filter, Qos: qos} }

// publish is one of a Body of so many bytes, with a head that is given.
func publish(head string, body int) known {
	return known{api.Pack{Kind: api.PackPublish, Topic: "a", Body: strings.Repeat("x", body)}, append(bytesOf(head+"0001 61"), strings.Repeat("x", body)...)}
}

var (
	pingreq    = known{api.Pack{Kind: api.PackPingreq}, bytesOf("c0 00")}
	disconnect = known{api.Pack{Kind: api.PackDisconnect}, bytesOf("e0 00")}
	puback     = known{api.Pack{Kind: api.PackPuback, ID: 258}, bytesOf("40 02 0102")}
)

// kinds tells packets of each of the fourteen Kinds, one at least.
func kinds() []known {
	return []known{
		{api.Pack{Kind: api.PackConnect, Clean: true}, bytesOf("10 0c 0004 4d515454 04 02 0000 0000")},
		{
			api.Pack{Kind: api.PackConnect, Client: "me", Keep: 300, HasWill: true, Will: api.Will{Topic: "w/x", Body: "gone", Qos: 2, Retain: true}, HasUser: true, HasPass: true, User: "u", Pass: "pw"},
			bytesOf("10 20 0004 4d515454 04 f4 012c 0002 6d65 0003 772f78 0004 676f6e65 0001 75 0002 7077"),
		},
		{api.Pack{Kind: api.PackConnack, Present: true}, bytesOf("20 02 01 00")},
		{api.Pack{Kind: api.PackPublish, Topic: "a"}, bytesOf("30 03 0001 61")},
		{api.Pack{Kind: api.PackPublish, Dup: true, Retain: true, Qos: 2, Topic: "a/b", Body: "\xc0\x00", ID: 65535}, bytesOf("3d 09 0003 612f62 ffff c000")},
		publish("30 7f", 124),
		publish("30 8001", 125),
		publish("30 d30f", 2000),
		puback,
		{api.Pack{Kind: api.PackPubrec, ID: 1}, bytesOf("50 02 0001")},
		{api.Pack{Kind: api.PackPubrel, ID: 128}, bytesOf("62 02 0080")},
		{api.Pack{Kind: api.PackPubcomp, ID: 49152}, bytesOf("70 02 c000")},
		{api.Pack{Kind: api.PackSubscribe, ID: 10, Wants: []api.Want{want("a/+", 2), want("#", 0)}}, bytesOf("82 0c 000a 0003 612f2b 02 0001 23 00")},
		{api.Pack{Kind: api.PackSuback, ID: 10, Codes: []int{2, 128}}, bytesOf("90 04 000a 02 80")},
		{api.Pack{Kind: api.PackUnsubscribe, ID: 10, Filters: []string{"a/+", "#"}}, bytesOf("a2 0a 000a 0003 612f2b 0001 23")},
		{api.Pack{Kind: api.PackUnsuback, ID: 10}, bytesOf("b0 02 000a")},
		pingreq,
		{api.Pack{Kind: api.PackPingresp}, bytesOf("d0 00")},
		disconnect,
	}
}

// wrongs are bytes that are wrong, though not ahead of their last one, for any Most for which they have room.
func wrongs() [][]byte {
	var all [][]byte
	for _, digits := range []string{
		// lengths that are none
		"30 80808080", "c0 80808080", "00 80808080", "10 ffffffff", "30 ffffff80", "30 80808081", "ff 81828384",
		// lengths that are not in as few bytes as may be
		"c0 8000", "30 8000", "00 8000", "30 8100", "30 ff00", "c0 808000", "30 ff8000", "30 80808000", "30 ffffff00", "f0 81828300",
		// Kinds that are none
		"00 00", "f0 00", "0f 00", "ff 00", "00 01 00", "f0 01 00", "00 02 0001", "f0 02 c000",
		// flags that are others
		"c1 00", "c8 00", "d2 00", "ef 00", "42 02 0102", "60 02 0102", "6a 02 0102", "80 06 0001 0001 61 00", "a0 05 0001 0001 61", "36 05 0001 61 0001", "38 03 0001 61",
		// what a Kind may not have
		"40 02 0000", "20 02 0101", "20 02 0200", "20 02 0006", "30 03 0001 2b", "32 05 0001 61 0000", "10 0c 0004 4d515454 04 00 0000 0000", "82 06 0001 0001 61 03", "90 03 0001 03", "a2 06 0001 0002 612b", "10 0c 0004 4d515454 05 02 0000 0000",
		// too few bytes, or too many
		"40 00", "40 01 01", "40 03 0102 00", "c0 01 00", "c0 02 c000", "e0 01 e0", "30 00", "30 02 0001", "30 03 0002 61", "10 00", "10 0d 0004 4d515454 04 02 0000 0000 00", "82 02 0001", "90 02 0001", "a2 02 0001", "30 05 0006 616263",
	} {
		all = append(all, bytesOf(digits))
	}
	return all
}

// made tells a new framer.
func made(t *testing.T, most int) *framer.Framer {
	t.Helper()
	f, e := framer.New(most)
	if f == nil || e != api.OK {
		t.Fatalf("New(%d): %v %v", most, f, e)
	}
	return f
}

// holding tells a new framer to which bytes came.
func holding(t *testing.T, most int, b []byte) *framer.Framer {
	t.Helper()
	f := made(t, most)
	wantPut(t, f, b)
	return f
}

func wantPut(t *testing.T, f *framer.Framer, b []byte) {
	t.Helper()
	if e := f.Put(b); e != api.OK {
		t.Fatalf("Put(%x): %v", short(b), e)
	}
}

func wantState(t *testing.T, f *framer.Framer, left int, spoilt bool) {
	t.Helper()
	if f.Left() != left || f.Spoilt() != spoilt {
		t.Fatalf("Left %d, Spoilt %t, want %d, %t", f.Left(), f.Spoilt(), left, spoilt)
	}
}

// wantNext wants that a packet is next, behind which so many bytes are left.
func wantNext(t *testing.T, f *framer.Framer, want api.Pack, left int) {
	t.Helper()
	if p, is, e := f.Next(); !packet.Same(p, want) || !is || e != api.OK {
		t.Fatalf("Next: %v %t %v, want %v", p, is, e, want)
	}
	wantState(t, f, left, false)
}

// wantWaits wants that nothing is next, as often as it is asked, while so many bytes wait.
func wantWaits(t *testing.T, f *framer.Framer, left int) {
	t.Helper()
	for range 2 {
		wantState(t, f, left, false)
		if p, is, e := f.Next(); !packet.Same(p, api.Pack{}) || is || e != api.OK {
			t.Fatalf("Next: %v %t %v, want none", p, is, e)
		}
		wantState(t, f, left, false)
		wantAll(t, f, nil, api.OK)
	}
	wantState(t, f, left, false)
}

func wantAll(t *testing.T, f *framer.Framer, want []api.Pack, wantErr api.Errno) {
	t.Helper()
	if all, e := f.All(); !slices.EqualFunc(all, want, packet.Same) || e != wantErr {
		t.Fatalf("All: %v %v, want %v %v", all, e, want, wantErr)
	}
}

// wantRefused wants that Next tells nothing but an error.
func wantRefused(t *testing.T, f *framer.Framer, want api.Errno) {
	t.Helper()
	if p, is, e := f.Next(); !packet.Same(p, api.Pack{}) || is || e != want {
		t.Fatalf("Next: %v %t %v, want %v", p, is, e, want)
	}
}

// wantSpoilt wants that it is spoilt, for good.
func wantSpoilt(t *testing.T, f *framer.Framer) {
	t.Helper()
	for range 2 {
		wantState(t, f, 0, true)
		for _, b := range [][]byte{nil, {}, {0}, pingreq.b, bytes.Repeat(pingreq.b, 100)} {
			if e := f.Put(b); e != api.ErrSpoilt {
				t.Fatalf("Put(%x): %v, want %v", short(b), e, api.ErrSpoilt)
			}
			wantState(t, f, 0, true)
		}
		wantRefused(t, f, api.ErrSpoilt)
		wantAll(t, f, nil, api.ErrSpoilt)
	}
	wantState(t, f, 0, true)
}

// takings are the two ways in which all that is next can be taken, up to what spoils, or to where nothing is next.
func takings() map[string]func(f *framer.Framer) ([]api.Pack, api.Errno) {
	return map[string]func(f *framer.Framer) ([]api.Pack, api.Errno){
		"All": (*framer.Framer).All,
		"Next": func(f *framer.Framer) (all []api.Pack, e api.Errno) {
			p, is, e := f.Next()
			for is && e == api.OK {
				all = append(all, p)
				p, is, e = f.Next()
			}
			return all, e
		},
	}
}

// wantTaken wants that bytes of a new framer are such packets, behind which so many are left, or which it is spoilt behind.
func wantTaken(t *testing.T, most int, b []byte, want []api.Pack, left int, spoilt bool) {
	t.Helper()
	for way, take := range takings() {
		f := holding(t, most, b)
		all, e := take(f)
		if wantErr := map[bool]api.Errno{true: api.ErrSpoilt}[spoilt]; !slices.EqualFunc(all, want, packet.Same) || e != wantErr {
			t.Fatalf("%s of %x, Most %d: %v %v, want %v %v", way, short(b), most, all, e, want, wantErr)
		}
		if spoilt {
			wantSpoilt(t, f)
		} else {
			wantWaits(t, f, left)
		}
	}
}

// line tells the packets and the bytes of some, one behind the other.
func line(all ...known) (packs []api.Pack, b []byte) {
	for _, k := range all {
		packs, b = append(packs, k.p), append(b, k.b...)
	}
	return packs, b
}

func TestExamples(t *testing.T) {
	f := holding(t, 20, bytesOf("c0"))
	wantWaits(t, f, 1)
	wantPut(t, f, bytesOf("00 c0"))
	wantNext(t, f, pingreq.p, 1)
	wantWaits(t, f, 1)
	for _, g := range []*framer.Framer{f, made(t, 20)} { // the second line holds behind the first one, and of a new framer
		left := g.Left()
		wantPut(t, g, bytesOf("01"))
		wantWaits(t, g, left+1)
		wantPut(t, g, bytesOf("c0 00"))
		wantRefused(t, g, api.ErrSpoilt)
		if e := g.Put(bytesOf("00")); e != api.ErrSpoilt || g.Left() != 0 {
			t.Errorf("Put: %v, Left %d", e, g.Left())
		}
	}
}

// P17.1: New

func TestNew(t *testing.T) {
	for _, most := range []int{2, 3, 4, 20, 128, 4096, api.MaxText - 1, api.MaxText} {
		f := made(t, most)
		wantWaits(t, f, 0)
		wantPut(t, f, pingreq.b)
		wantNext(t, f, pingreq.p, 0)
	}
}

func TestNewOfWhatMayNotBe(t *testing.T) {
	for _, most := range []int{-1, 0, 1, -2, -20, api.MaxText + 1, api.MaxText + 2, 2 * api.MaxText, math.MaxInt32, math.MinInt32, math.MaxInt, math.MaxInt - 1, math.MinInt, math.MinInt + 2} {
		if f, e := framer.New(most); f != nil || e != api.ErrArg {
			t.Errorf("New(%d): %v %v, want %v", most, f, e, api.ErrArg)
		}
	}
}

func TestNewIsAnotherOne(t *testing.T) {
	f, g := made(t, 20), made(t, 20)
	wantPut(t, f, bytesOf("c0"))
	wantWaits(t, g, 0)
	wantPut(t, g, bytesOf("00 00"))
	wantRefused(t, g, api.ErrSpoilt)
	wantWaits(t, f, 1)
}

// No framer: one that is nil, one that New refused, and one that no call made.

func TestNoFramer(t *testing.T) {
	refused, _ := framer.New(1)
	zero := framer.Framer{}
	for what, f := range map[string]*framer.Framer{"nil": nil, "refused": refused, "new": new(framer.Framer), "zero": &zero} {
		for range 2 {
			for _, b := range [][]byte{nil, {}, {0}, pingreq.b, bytesOf("c0 8000")} {
				if e := f.Put(b); e != api.ErrNil {
					t.Errorf("%s: Put(%x): %v, want %v", what, b, e, api.ErrNil)
				}
			}
			wantRefused(t, f, api.ErrNil)
			wantAll(t, f, nil, api.ErrNil)
			wantState(t, f, 0, false)
			if c := f.Copy(); c != nil {
				t.Errorf("%s: Copy: %v", what, c)
			}
		}
	}
}

// P17.1: Put

func TestPutOfNothing(t *testing.T) {
	for _, none := range [][]byte{nil, {}} {
		f := holding(t, 20, none)
		wantWaits(t, f, 0)
		wantPut(t, f, bytesOf("40 02 01"))
		wantPut(t, f, none)
		wantWaits(t, f, 3)
		wantPut(t, f, none)
		wantPut(t, f, bytesOf("02 c0"))
		wantPut(t, f, none)
		wantNext(t, f, puback.p, 1)
		wantPut(t, f, none)
		wantWaits(t, f, 1)
	}
}

// Whatever comes, Put takes it, as long as nobody found it wrong.
func TestPutLooksAtNothing(t *testing.T) {
	for _, b := range append(wrongs(), bytesOf("30 ffffff7f"), bytesOf("30 15")) {
		f := holding(t, 20, b)
		wantState(t, f, len(b), false)
		wantPut(t, f, pingreq.b)
		wantState(t, f, len(b)+2, false)
		wantRefused(t, f, api.ErrSpoilt)
		wantSpoilt(t, f)
	}
}

func TestPutOfManyBytes(t *testing.T) {
	const many = 20000
	f := holding(t, 2, bytes.Repeat(pingreq.b, many))
	wantState(t, f, 2*many, false)
	wantPut(t, f, bytes.Repeat(disconnect.b, many))
	wantPut(t, f, bytesOf("c0"))
	for i := range 2 * many {
		wantNext(t, f, []api.Pack{pingreq.p, disconnect.p}[i/many], 2*(2*many-i-1)+1)
	}
	wantWaits(t, f, 1)
}

// P17.1: Next and All

func TestOfNoBytes(t *testing.T) {
	wantWaits(t, made(t, 2), 0)
	wantTaken(t, 2, nil, nil, 0, false)
}

func TestEachKind(t *testing.T) {
	seen := map[api.PackKind]bool{}
	for _, k := range kinds() {
		seen[k.p.Kind] = true
		for _, most := range []int{len(k.b), len(k.b) + 1, api.MaxText} {
			f := holding(t, most, k.b)
			wantState(t, f, len(k.b), false)
			wantNext(t, f, k.p, 0)
			wantWaits(t, f, 0)
			wantTaken(t, most, k.b, []api.Pack{k.p}, 0, false)
		}
	}
	if len(seen) != 14 {
		t.Errorf("%d Kinds", len(seen))
	}
}

func TestWhatIsCutAtEachPlace(t *testing.T) {
	for _, k := range kinds() {
		for cut := range len(k.b) {
			wantTaken(t, len(k.b), k.b[:cut], nil, cut, false)
			f := holding(t, len(k.b), k.b[:cut])
			wantWaits(t, f, cut)
			wantPut(t, f, k.b[cut:])
			g := f.Copy()
			wantNext(t, f, k.p, 0)
			wantAll(t, g, []api.Pack{k.p}, api.OK)
			wantWaits(t, g, 0)
		}
	}
}

func TestSeveral(t *testing.T) {
	for _, all := range [][]known{{pingreq, pingreq}, {pingreq, disconnect, puback}, {puback, puback, puback, pingreq}, kinds()} {
		packs, b := line(all...)
		wantTaken(t, api.MaxText, b, packs, 0, false)
		f, left := holding(t, 4096, b), len(b)
		for _, k := range all {
			left -= len(k.b)
			wantNext(t, f, k.p, left)
		}
		wantWaits(t, f, 0)
	}
}

func TestSeveralAndAPieceBehind(t *testing.T) {
	packs, b := line(kinds()...)
	for _, k := range kinds() {
		for cut := range min(len(k.b), 140) {
			wantTaken(t, 4096, joined(b, k.b[:cut]), packs, cut, false)
		}
	}
	f := holding(t, 4096, joined(b, b[:1]))
	wantAll(t, f, packs, api.OK)
	wantPut(t, f, b[1:])
	wantPut(t, f, puback.b[:3])
	wantAll(t, f, packs, api.OK)
	wantPut(t, f, puback.b[3:])
	wantAll(t, f, []api.Pack{puback.p}, api.OK)
	wantWaits(t, f, 0)
}

// Some are taken by Next, the others by All.
func TestNextAheadOfAll(t *testing.T) {
	all := kinds()
	packs, b := line(all...)
	for n := range len(all) + 1 {
		f, left := holding(t, 4096, b), len(b)
		for _, k := range all[:n] {
			left -= len(k.b)
			wantNext(t, f, k.p, left)
		}
		wantAll(t, f, packs[n:], api.OK)
		wantWaits(t, f, 0)
	}
}

// P17.1: Most

func TestAboutMost(t *testing.T) {
	for _, k := range kinds() {
		many := len(k.b)
		wantTaken(t, many, joined(k.b, k.b, k.b[:1]), []api.Pack{k.p, k.p}, 1, false)
		if many > 2 {
			wantTaken(t, many-1, k.b, nil, 0, true)
			wantTaken(t, many-1, joined(pingreq.b, k.b, pingreq.b), []api.Pack{pingreq.p}, 0, true)
			wantTaken(t, 2, joined(pingreq.b, k.b), []api.Pack{pingreq.p}, 0, true)
		}
	}
}

// What would have more than Most bytes is wrong as soon as its length tells it, and no byte sooner.
func TestAsSoonAsTheLengthTellsIt(t *testing.T) {
	for _, c := range []struct {
		head string // up to the length's end
		many int    // bytes that a packet has that begins so
	}{
		{"30 01", 3}, {"40 02", 4}, {"c0 12", 20}, {"00 13", 21}, {"f7 7e", 128}, {"30 7f", 129}, {"10 8001", 131}, {"30 ff01", 258}, {"82 ff7f", 16386},
		{"30 808001", 16388}, {"10 fcff03", 65536},
	} {
		head := bytesOf(c.head)
		for _, most := range []int{c.many - 1, c.many - 2, c.many / 2, 2} {
			if most < 2 {
				continue
			}
			wantTaken(t, most, head, nil, 0, true)
			wantTaken(t, most, joined(pingreq.b, head), []api.Pack{pingreq.p}, 0, true)
			f := made(t, most)
			for i := range head {
				wantWaits(t, f, i)
				wantPut(t, f, head[i:i+1])
			}
			wantRefused(t, f, api.ErrSpoilt)
			wantSpoilt(t, f)
		}
		for _, most := range []int{c.many, c.many + 1, api.MaxText} {
			if most <= api.MaxText {
				wantTaken(t, most, head, nil, len(head), false)
				wantTaken(t, most, joined(head, make([]byte, c.many-len(head)-1)), nil, c.many-1, false)
			}
		}
	}
}

func TestFarMoreThanMost(t *testing.T) {
	for _, digits := range []string{"30 fdff03", "30 808004", "30 ffff7f", "c0 80808001", "10 ffffff7f", "ff ffffff7f", "00 80808040"} {
		b := bytesOf(digits)
		for _, most := range []int{2, 20, 4096, api.MaxText} {
			wantTaken(t, most, b, nil, 0, true)
			wantTaken(t, most, joined(b, make([]byte, 100)), nil, 0, true)
			wantTaken(t, most, joined(pingreq.b, b), []api.Pack{pingreq.p}, 0, true)
			wantTaken(t, most, b[:len(b)-1], nil, len(b)-1, false) // its length is not all there yet
		}
	}
}

// No packet has so many bytes as Most may be, which is found when all of them are there.
func TestGreatestMost(t *testing.T) {
	b := append(bytesOf("30 fcff03 0001 61"), bytes.Repeat([]byte("x"), api.MaxText-7)...)
	f := holding(t, api.MaxText, b[:api.MaxText-1])
	wantWaits(t, f, api.MaxText-1)
	wantPut(t, f, b[api.MaxText-1:])
	wantTaken(t, api.MaxText, b, nil, 0, true)
	wantRefused(t, f, api.ErrSpoilt)
	wantSpoilt(t, f)
}

// P17.1: lengths

func TestLengthsThatAreNotAllThere(t *testing.T) {
	for _, digits := range []string{"80", "81", "ff", "8080", "ffff", "80ff", "808080", "ffffff", "808081"} {
		for _, first := range []string{"c0", "30", "00", "ff"} {
			b := bytesOf(first + digits)
			for _, most := range []int{2, 3, 20, 127, 128, api.MaxText} {
				wantTaken(t, most, b, nil, len(b), false)
				wantTaken(t, most, joined(pingreq.b, b), []api.Pack{pingreq.p}, len(b), false)
			}
		}
	}
}

// P17.1: what is wrong

func TestWhatIsWrong(t *testing.T) {
	for _, b := range wrongs() {
		for cut := range b {
			wantTaken(t, 4096, b[:cut], nil, cut, false)
		}
		f := made(t, 4096)
		for i := range b {
			wantWaits(t, f, i)
			wantPut(t, f, b[i:i+1])
		}
		wantRefused(t, f, api.ErrSpoilt)
		wantSpoilt(t, f)
	}
}

// As the first, in the middle and as the last; what stands behind it does not matter.
func TestWhereItIsWrong(t *testing.T) {
	packs, ahead := line(kinds()...)
	for _, b := range wrongs() {
		for _, behind := range [][]byte{nil, {0}, {0x80}, pingreq.b, pingreq.b[:1], b, ahead} {
			wantTaken(t, 4096, joined(b, behind), nil, 0, true)
			wantTaken(t, 4096, joined(pingreq.b, b, behind), []api.Pack{pingreq.p}, 0, true)
			wantTaken(t, 4096, joined(ahead, b, behind), packs, 0, true)
		}
	}
}

// It is found wrong when that is next, not while a packet is ahead of it.
func TestPacketsAheadOfWhatIsWrong(t *testing.T) {
	for _, b := range wrongs() {
		f := holding(t, 4096, joined(puback.b, disconnect.b, b))
		wantNext(t, f, puback.p, len(b)+2)
		wantNext(t, f, disconnect.p, len(b))
		wantPut(t, f, nil)
		g := f.Copy()
		wantRefused(t, f, api.ErrSpoilt)
		wantSpoilt(t, f)
		wantState(t, g, len(b), false)
		wantAll(t, g, nil, api.ErrSpoilt)
		wantSpoilt(t, g)
	}
}

func TestSpoiltBehindMore(t *testing.T) {
	f := made(t, 20)
	for range 10 {
		wantPut(t, f, joined(puback.b, pingreq.b[:1]))
		wantAll(t, f, []api.Pack{puback.p}, api.OK)
		wantPut(t, f, pingreq.b[1:])
		wantNext(t, f, pingreq.p, 0)
	}
	wantPut(t, f, bytesOf("d0 00 d0 01"))
	wantAll(t, f, []api.Pack{{Kind: api.PackPingresp}}, api.OK)
	wantWaits(t, f, 2)
	wantPut(t, f, bytesOf("00"))
	wantAll(t, f, nil, api.ErrSpoilt)
	wantSpoilt(t, f)
}

// P17.2: Left, Spoilt

func TestLeft(t *testing.T) {
	f := made(t, 20)
	for i, step := range []struct {
		put  string
		is   bool
		left int
	}{
		{"", false, 0}, {"40", false, 1}, {"02", false, 2}, {"01", false, 3}, {"02 c0 00 e0", true, 3}, {"", true, 1}, {"", false, 1}, {"00", true, 0}, {"", false, 0},
	} {
		ahead := f.Left()
		b := bytesOf(step.put)
		wantPut(t, f, b)
		wantState(t, f, ahead+len(b), false)
		if _, is, e := f.Next(); is != step.is || e != api.OK {
			t.Fatalf("step %d: %t %v", i, is, e)
		}
		wantState(t, f, step.left, false)
	}
}

// P17.2: Copy

// copied tells a copy, once it is seen that it is of the same.
func copied(t *testing.T, f *framer.Framer) *framer.Framer {
	t.Helper()
	left, spoilt := f.Left(), f.Spoilt()
	c := f.Copy()
	if c == nil || c == f {
		t.Fatalf("Copy: %v", c)
	}
	wantState(t, c, left, spoilt)
	wantState(t, f, left, spoilt)
	return c
}

// both does something with one of two, then another thing with the other one, and the same the other way round.
func both(t *testing.T, make func() *framer.Framer, one, other func(f *framer.Framer)) {
	t.Helper()
	for range 2 {
		f := make()
		c := copied(t, f)
		one(f)
		other(c)
		f = make()
		c = copied(t, f)
		one(c)
		other(f)
		one, other = other, one
	}
}

func TestCopyOfANewOne(t *testing.T) {
	both(t, func() *framer.Framer { return made(t, 4) }, func(f *framer.Framer) {
		wantWaits(t, f, 0)
		wantPut(t, f, puback.b)
		wantNext(t, f, puback.p, 0)
	}, func(f *framer.Framer) {
		wantWaits(t, f, 0)
		wantPut(t, f, bytesOf("40 03")) // more than Most
		wantRefused(t, f, api.ErrSpoilt)
		wantSpoilt(t, f)
	})
}

func TestCopyOfOneWithBytesThatWait(t *testing.T) {
	for _, ahead := range [][]byte{nil, pingreq.b, joined(pingreq.b, disconnect.b, pingreq.b)} {
		for _, spare := range []int{0, 100} { // bytes that were taken may leave spare room behind, or none
			makes := func() *framer.Framer {
				f := holding(t, 20, joined(bytes.Repeat(pingreq.b, spare), ahead, puback.b[:3]))
				for range spare + len(ahead)/2 {
					f.Next()
				}
				wantState(t, f, 3, false)
				return f
			}
			goOn := func(last byte, id int64) func(f *framer.Framer) {
				return func(f *framer.Framer) {
					wantWaits(t, f, 3)
					wantPut(t, f, []byte{last, 0xc0})
					wantNext(t, f, api.Pack{Kind: api.PackPuback, ID: id}, 1)
				}
			}
			both(t, makes, goOn(7, 263), goOn(9, 265))
			both(t, makes, goOn(7, 263), func(f *framer.Framer) { wantWaits(t, f, 3) })

			f := makes()
			c := copied(t, f)
			wantPut(t, f, []byte{7, 0xc0}) // both come ahead of both being taken
			wantPut(t, c, []byte{9, 0xe0, 0})
			wantNext(t, f, api.Pack{Kind: api.PackPuback, ID: 263}, 1)
			wantNext(t, c, api.Pack{Kind: api.PackPuback, ID: 265}, 2)
			wantPut(t, f, []byte{0})
			wantNext(t, f, pingreq.p, 0)
			wantNext(t, c, disconnect.p, 0)
		}
	}
}

func TestCopyOfOneWithPacketsThatWait(t *testing.T) {
	packs, b := line(kinds()...)
	for n := range len(packs) {
		makes := func() *framer.Framer {
			f := holding(t, 4096, b)
			for range n {
				f.Next()
			}
			return f
		}
		taken := func(f *framer.Framer) {
			wantAll(t, f, packs[n:], api.OK)
			wantWaits(t, f, 0)
		}
		both(t, makes, taken, taken)
		both(t, makes, taken, func(f *framer.Framer) {
			wantPut(t, f, bytesOf("00 00"))
			wantAll(t, f, packs[n:], api.ErrSpoilt)
			wantSpoilt(t, f)
		})
	}
}

func TestCopyOfASpoiltOne(t *testing.T) {
	for _, b := range wrongs() {
		f := holding(t, 20, b)
		wantRefused(t, f, api.ErrSpoilt)
		c := copied(t, f)
		wantSpoilt(t, c)
		wantSpoilt(t, f)
		wantSpoilt(t, copied(t, c))
	}
}

// A copy has the same Most.
func TestCopyHasItsMost(t *testing.T) {
	for _, k := range kinds() {
		wantNext(t, holding(t, len(k.b), k.b).Copy(), k.p, 0)
		if len(k.b) > 2 {
			c := holding(t, len(k.b)-1, k.b).Copy()
			wantRefused(t, c, api.ErrSpoilt)
			wantSpoilt(t, c)
		}
	}
}

// What is handed in, what is handed out

func TestPutLeavesItsBytes(t *testing.T) {
	_, all := line(kinds()...)
	for _, b := range append(wrongs(), nil, all, all[:len(all)-1]) {
		whole := append(bytes.Clone(b), "spare room"...)
		mine := bytes.Clone(whole)
		f := made(t, 4096)
		wantPut(t, f, mine[:len(b)])
		wantPut(t, f, mine[:len(b)])
		f.Next()
		f.All()
		f.Put([]byte("others"))
		if !bytes.Equal(mine, whole) {
			t.Errorf("Put changed %x to %x", short(whole), short(mine))
		}
	}
}

func TestPutKeepsNothing(t *testing.T) {
	packs, b := line(kinds()...)
	for _, cut := range []int{0, 1, 2, 30, len(b) - 1, len(b)} {
		f := made(t, 4096)
		for _, part := range [][]byte{b[:cut], b[cut:]} {
			mine := bytes.Clone(part)
			wantPut(t, f, mine)
			clear(mine[:cap(mine)])
		}
		c := f.Copy()
		wantAll(t, f, packs, api.OK)
		wantAll(t, c, packs, api.OK)
	}
	mine := bytes.Clone(b) // the same bytes are handed in again and again
	f := made(t, 4096)
	for i := range 100 {
		copy(mine, puback.b)
		mine[3] = byte(i)
		wantPut(t, f, mine[:4])
	}
	for i := range 100 {
		wantNext(t, f, api.Pack{Kind: api.PackPuback, ID: int64(256 + i)}, 4*(99-i))
	}
}

// scribble changes all lists of a packet.
func scribble(p api.Pack) {
	for i := range p.Wants {
		p.Wants[i] = want("zz", 1)
	}
	for i := range p.Codes {
		p.Codes[i] = 99
	}
	for i := range p.Filters {
		p.Filters[i] = "zz"
	}
}

func TestPacketsAreApart(t *testing.T) {
	packs, b := line(kinds()...)
	f := holding(t, 4096, joined(b, b, b, b))
	c := f.Copy()
	first, e := c.All()
	if e != api.OK || len(first) != 4*len(packs) {
		t.Fatalf("All: %d %v", len(first), e)
	}
	for _, p := range first[:len(packs)] {
		scribble(p)
	}
	if !slices.EqualFunc(first[len(packs):2*len(packs)], packs, packet.Same) {
		t.Error("packets of one answer share memory")
	}
	for _, p := range packs {
		got, is, e := f.Next()
		if !packet.Same(got, p) || !is || e != api.OK {
			t.Fatalf("Next: %v %t %v, want %v", got, is, e, p)
		}
		scribble(got)
	}
	all, _ := f.All()
	if !slices.EqualFunc(all, slices.Concat(packs, packs, packs), packet.Same) {
		t.Errorf("All: %v", all)
	}
}

func TestListsAreApart(t *testing.T) {
	f := made(t, 4096)
	packs, b := line(kinds()...)
	wantPut(t, f, b)
	c := f.Copy()
	first, _ := f.All()
	kept := slices.Clone(first)
	wantPut(t, f, bytes.Repeat(pingreq.b, 100))
	f.All()
	if !slices.EqualFunc(first, kept, packet.Same) {
		t.Error("a later All changed what was handed out")
	}
	clear(first[:cap(first)])
	wantAll(t, c, packs, api.OK)
	wantPut(t, f, b)
	wantAll(t, f, packs, api.OK)
}

// What was handed out stays as it is, whatever comes then.
func TestPacketsStayAsTheyAre(t *testing.T) {
	for _, k := range kinds() {
		f := holding(t, 4096, joined(k.b, pingreq.b[:1]))
		p, _, _ := f.Next()
		wantPut(t, f, pingreq.b[1:])
		for range 10 {
			wantPut(t, f, bytes.Repeat(disconnect.b, 200))
		}
		f.All()
		wantPut(t, f, bytesOf("00 00"))
		f.Next()
		if !packet.Same(p, k.p) {
			t.Errorf("%v became %v", k.p, p)
		}
	}
}
