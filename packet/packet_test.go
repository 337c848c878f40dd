package packet_test

import (
	"bytes"
	"encoding/hex"
	"fmt"
	"math"
	"slices"
	"strings"
	"testing"

	"pigeonry/api"
	"pigeonry/packet"
)

// bytesOf tells bytes by digits to the base 16, in which there may be spaces.
func bytesOf(digits string) []byte {
	b, err := hex.DecodeString(strings.ReplaceAll(digits, " ", ""))
	if err != nil {
		panic(err)
	}
	return b
}

// of tells a text of so many bytes.
func of(n int) string { return strings.Repeat("x", n) }

// want tells a filter, and how it is wanted.
func want(filter string, qos int) api.Want { return api.Want{Filter: filter, Qos: qos} }

// short tells bytes, of many the first ones.
func short(b []byte) []byte { return b[:min(len(b), 40)] }

// brief tells a packet in few signs, of one that has many the first ones.
func brief(p api.Pack) string {
	s := fmt.Sprintf("%+q", fmt.Sprintf("%+v", p))
	return s[:min(len(s), 400)]
}

// wantMay holds what is told of a packet that may be against its bytes.
func wantMay(t *testing.T, p api.Pack, want []byte) {
	t.Helper()
	if e := packet.Check(p); e != api.OK {
		t.Errorf("Check(%s): %v", brief(p), e)
	}
	if b, e := packet.Raw(p); !bytes.Equal(b, want) || e != api.OK {
		t.Errorf("Raw(%s): %x %v, want %x", brief(p), short(b), e, short(want))
	}
	wantParse(t, want, p)
}

func wantMayNot(t *testing.T, p api.Pack) {
	t.Helper()
	if e := packet.Check(p); e != api.ErrArg {
		t.Errorf("Check(%s): %v", brief(p), e)
	}
	if b, e := packet.Raw(p); len(b) != 0 || e != api.ErrArg {
		t.Errorf("Raw(%s): %x %v", brief(p), short(b), e)
	}
}

func wantParse(t *testing.T, b []byte, want api.Pack) {
	t.Helper()
	p, e := packet.Parse(b)
	if !alike(p, want) || e != api.OK {
		t.Errorf("Parse(%x): %s %v, want %s", short(b), brief(p), e, brief(want))
	}
	if again, e := packet.Raw(p); !bytes.Equal(again, b) || e != api.OK {
		t.Errorf("Raw of Parse(%x): %x %v", short(b), short(again), e)
	}
}

func wantNoParse(t *testing.T, b []byte) {
	t.Helper()
	if p, e := packet.Parse(b); !alike(p, api.Pack{}) || e != api.ErrPack {
		t.Errorf("Parse(%x): %s %v, want %v", short(b), brief(p), e, api.ErrPack)
	}
}

// known is a packet and its bytes, to the base 16.
type known struct {
	p      api.Pack
	digits string
}

// least tells packets of each Kind that have as little as may be.
func least() []known {
	return []known{
		{api.Pack{Kind: api.PackConnect, Clean: true}, "10 0c 0004 4d515454 04 02 0000 0000"},
		{api.Pack{Kind: api.PackConnack}, "20 02 00 00"},
		{api.Pack{Kind: api.PackPublish, Topic: "a"}, "30 03 0001 61"},
		{api.Pack{Kind: api.PackPuback, ID: 1}, "40 02 0001"},
		{api.Pack{Kind: api.PackPubrec, ID: 1}, "50 02 0001"},
		{api.Pack{Kind: api.PackPubrel, ID: 1}, "62 02 0001"},
		{api.Pack{Kind: api.PackPubcomp, ID: 1}, "70 02 0001"},
		{api.Pack{Kind: api.PackSubscribe, ID: 1, Wants: []api.Want{{Filter: "a"}}}, "82 06 0001 0001 61 00"},
		{api.Pack{Kind: api.PackSuback, ID: 1, Codes: []int{0}}, "90 03 0001 00"},
		{api.Pack{Kind: api.PackUnsubscribe, ID: 1, Filters: []string{"a"}}, "a2 05 0001 0001 61"},
		{api.Pack{Kind: api.PackUnsuback, ID: 1}, "b0 02 0001"},
		{api.Pack{Kind: api.PackPingreq}, "c0 00"},
		{api.Pack{Kind: api.PackPingresp}, "d0 00"},
		{api.Pack{Kind: api.PackDisconnect}, "e0 00"},
	}
}

// full tells packets of each Kind that have all that may be.
func full() []known {
	return []known{
		{
			api.Pack{Kind: api.PackConnect, Client: "me", Clean: true, Keep: 300, HasWill: true, Will: api.Will{Topic: "w/x", Body: "gone", Qos: 2, Retain: true}, HasUser: true, HasPass: true, User: "u", Pass: "pw"},
			"10 20 0004 4d515454 04 f6 012c 0002 6d65 0003 772f78 0004 676f6e65 0001 75 0002 7077",
		},
		{api.Pack{Kind: api.PackConnack, Present: true}, "20 02 01 00"},
		{api.Pack{Kind: api.PackPublish, Dup: true, Retain: true, Qos: 2, Topic: "a/b", Body: "hi", ID: 65535}, "3d 09 0003 612f62 ffff 6869"},
		{api.Pack{Kind: api.PackPuback, ID: 65535}, "40 02 ffff"},
		{api.Pack{Kind: api.PackPubrec, ID: 65535}, "50 02 ffff"},
		{api.Pack{Kind: api.PackPubrel, ID: 65535}, "62 02 ffff"},
		{api.Pack{Kind: api.PackPubcomp, ID: 65535}, "70 02 ffff"},
		{
			api.Pack{Kind: api.PackSubscribe, ID: 258, Wants: []api.Want{want("+", 1), want("#", 2), want("b", 0), want("+", 2), want("$", 1), want("/", 0), want("g", 1), want("h", 2)}},
			"82 22 0102 0001 2b 01 0001 23 02 0001 62 00 0001 2b 02 0001 24 01 0001 2f 00 0001 67 01 0001 68 02",
		},
		{api.Pack{Kind: api.PackSuback, ID: 258, Codes: []int{0, 1, 2, 128, 128, 2, 1, 0}}, "90 0a 0102 00 01 02 80 80 02 01 00"},
		{
			api.Pack{Kind: api.PackUnsubscribe, ID: 258, Filters: []string{"a/#", "+", "b", "c", "b", "e", "+/", "#"}},
			"a2 1d 0102 0003 612f23 0001 2b 0001 62 0001 63 0001 62 0001 65 0002 2b2f 0001 23",
		},
		{api.Pack{Kind: api.PackUnsuback, ID: 65535}, "b0 02 ffff"},
		{api.Pack{Kind: api.PackPingreq}, "c0 00"},
		{api.Pack{Kind: api.PackPingresp}, "d0 00"},
		{api.Pack{Kind: api.PackDisconnect}, "e0 00"},
	}
}

// between tells packets that have some of what their Kinds may have.
func between() []known {
	return []known{
		{api.Pack{Kind: api.PackConnect, Client: "x", Clean: true, Keep: 10}, "10 0d 0004 4d515454 04 02 000a 0001 78"},
		{api.Pack{Kind: api.PackConnect, Client: "x", Keep: 65535}, "10 0d 0004 4d515454 04 00 ffff 0001 78"},
		{api.Pack{Kind: api.PackConnect, Client: "x", HasWill: true, Will: api.Will{Topic: "w"}}, "10 12 0004 4d515454 04 04 0000 0001 78 0001 77 0000"},
		{api.Pack{Kind: api.PackConnect, Client: "x", HasWill: true, Will: api.Will{Topic: "w", Qos: 1}}, "10 12 0004 4d515454 04 0c 0000 0001 78 0001 77 0000"},
		{api.Pack{Kind: api.PackConnect, Client: "x", HasWill: true, Will: api.Will{Topic: "w", Body: "\xff\x00", Retain: true}}, "10 14 0004 4d515454 04 24 0000 0001 78 0001 77 0002 ff00"},
		{api.Pack{Kind: api.PackConnect, Client: "x", HasUser: true}, "10 0f 0004 4d515454 04 80 0000 0001 78 0000"},
		{api.Pack{Kind: api.PackConnect, Client: "x", HasUser: true, User: "ä"}, "10 11 0004 4d515454 04 80 0000 0001 78 0002 c3a4"},
		{api.Pack{Kind: api.PackConnect, Client: "x", HasUser: true, HasPass: true}, "10 11 0004 4d515454 04 c0 0000 0001 78 0000 0000"},
		{api.Pack{Kind: api.PackConnect, Clean: true, HasUser: true, HasPass: true, Pass: "\xff\x00"}, "10 12 0004 4d515454 04 c2 0000 0000 0000 0002 ff00"},
		{api.Pack{Kind: api.PackConnack, Code: 1}, "20 02 00 01"},
		{api.Pack{Kind: api.PackConnack, Code: 5}, "20 02 00 05"},
		{api.Pack{Kind: api.PackPublish, Topic: "a", Body: "hi", Qos: 1, ID: 10}, "32 07 0001 61 000a 6869"},
		{api.Pack{Kind: api.PackPublish, Topic: "a", Body: "hi", Retain: true}, "31 05 0001 61 6869"},
		{api.Pack{Kind: api.PackPublish, Topic: "a", Qos: 1, ID: 256, Dup: true}, "3a 05 0001 61 0100"},
		{api.Pack{Kind: api.PackPublish, Topic: "a", Qos: 2, ID: 256}, "34 05 0001 61 0100"},
		{api.Pack{Kind: api.PackPublish, Topic: "$", Body: "\x00\xff"}, "30 05 0001 24 00ff"},
		{api.Pack{Kind: api.PackPublish, Topic: "a", Body: of(124)}, "30 7f 0001 61" + strings.Repeat("78", 124)},
		{api.Pack{Kind: api.PackPublish, Topic: "a", Body: of(125)}, "30 8001 0001 61" + strings.Repeat("78", 125)},
		{api.Pack{Kind: api.PackPublish, Topic: "a", Body: of(2000)}, "30 d30f 0001 61" + strings.Repeat("78", 2000)},
		{api.Pack{Kind: api.PackSubscribe, ID: 10, Wants: []api.Want{want("a/b", 2), want("c", 0)}}, "82 0c 000a 0003 612f62 02 0001 63 00"},
		{api.Pack{Kind: api.PackSuback, ID: 10, Codes: []int{128, 2}}, "90 04 000a 80 02"},
		{api.Pack{Kind: api.PackUnsubscribe, ID: 10, Filters: []string{"a", "a"}}, "a2 08 000a 0001 61 0001 61"},
	}
}

// all tells all of them.
func all() []known { return slices.Concat(least(), full(), between()) }

// a thing is something that a packet may have.
type thing struct {
	name string
	set  func(*api.Pack)
}

// things tells all that there is.
func things() []thing {
	return []thing{
		{"Dup", func(p *api.Pack) { p.Dup = true }},
		{"Retain", func(p *api.Pack) { p.Retain = true }},
		{"Qos", func(p *api.Pack) { p.Qos = 1 }},
		{"Topic", func(p *api.Pack) { p.Topic = "t" }},
		{"Body", func(p *api.Pack) { p.Body = "t" }},
		{"ID", func(p *api.Pack) { p.ID = 7 }},
		{"Client", func(p *api.Pack) { p.Client = "t" }},
		{"Clean", func(p *api.Pack) { p.Clean = true }},
		{"Keep", func(p *api.Pack) { p.Keep = 7 }},
		{"HasWill", func(p *api.Pack) { p.HasWill = true }},
		{"Will.Topic", func(p *api.Pack) { p.Will.Topic = "t" }},
		{"Will.Body", func(p *api.Pack) { p.Will.Body = "t" }},
		{"Will.Qos", func(p *api.Pack) { p.Will.Qos = 1 }},
		{"Will.Retain", func(p *api.Pack) { p.Will.Retain = true }},
		{"HasUser", func(p *api.Pack) { p.HasUser = true }},
		{"HasPass", func(p *api.Pack) { p.HasPass = true }},
		{"User", func(p *api.Pack) { p.User = "t" }},
		{"Pass", func(p *api.Pack) { p.Pass = "t" }},
		{"Present", func(p *api.Pack) { p.Present = true }},
		{"Code", func(p *api.Pack) { p.Code = 7 }},
		{"Wants", func(p *api.Pack) { p.Wants = []api.Want{want("t", 1)} }},
		{"Codes", func(p *api.Pack) { p.Codes = []int{2} }},
		{"Filters", func(p *api.Pack) { p.Filters = []string{"t"} }},
	}
}

// with tells a packet with something more.
func with(p api.Pack, set func(*api.Pack)) api.Pack {
	set(&p)
	return p
}

func TestExamples(t *testing.T) {
	if b, e := packet.Raw(api.Pack{Kind: api.PackPublish, Topic: "a", Body: "hi", Qos: 1, ID: 10}); !bytes.Equal(b, bytesOf("32 07 00 01 61 00 0a 68 69")) || e != api.OK {
		t.Errorf("Raw: %x %v", b, e)
	}
	if b, e := packet.Raw(api.Pack{Kind: api.PackPingreq}); !bytes.Equal(b, bytesOf("c0 00")) || e != api.OK {
		t.Errorf("Raw: %x %v", b, e)
	}
	wantNoParse(t, bytesOf("c0 01"))
	wantNoParse(t, bytesOf("60 02 00 01"))
	if b, e := packet.Raw(api.Pack{Kind: api.PackConnect, Client: "x", Clean: true, Keep: 10}); !bytes.Equal(b, bytesOf("10 0d 00 04 4d 51 54 54 04 02 00 0a 00 01 78")) || e != api.OK {
		t.Errorf("Raw: %x %v", b, e)
	}
}

// P16.1: Check, Raw

func TestEachKind(t *testing.T) {
	for _, one := range all() {
		wantMay(t, one.p, bytesOf(one.digits))
	}
}

// What a Kind does not have may not be there: all else is zero.
func TestWhatAKindDoesNotHave(t *testing.T) {
	has := map[api.PackKind]string{
		api.PackConnect:     "Client Clean Keep HasWill Will.Topic Will.Body Will.Qos Will.Retain HasUser HasPass User Pass",
		api.PackConnack:     "Code Present",
		api.PackPublish:     "Topic Body Qos Retain ID Dup",
		api.PackPuback:      "ID",
		api.PackPubrec:      "ID",
		api.PackPubrel:      "ID",
		api.PackPubcomp:     "ID",
		api.PackUnsuback:    "ID",
		api.PackSubscribe:   "ID Wants",
		api.PackSuback:      "ID Codes",
		api.PackUnsubscribe: "ID Filters",
	}
	for _, one := range all() {
		names := strings.Fields(has[one.p.Kind])
		for _, thing := range things() {
			if p := with(one.p, thing.set); !slices.Contains(names, thing.name) {
				wantMayNot(t, p)
			}
		}
	}
}

// Of some things it hangs on others whether they may be there.
func TestWhatHangsOnOthers(t *testing.T) {
	user := with(least()[0].p, func(p *api.Pack) { p.HasUser = true })
	for _, p := range []api.Pack{least()[0].p, between()[0].p, user} {
		for _, name := range []string{"HasWill", "Will.Topic", "Will.Body", "Will.Qos", "Will.Retain", "Pass"} { // a Will without a Topic may not be either
			for _, thing := range things() {
				if thing.name == name {
					wantMayNot(t, with(p, thing.set))
				}
			}
		}
	}
	for _, set := range []func(*api.Pack){
		func(p *api.Pack) { p.User = "t" },
		func(p *api.Pack) { p.HasPass = true },
		func(p *api.Pack) { p.HasPass, p.Pass = true, "t" },
		func(p *api.Pack) { p.User, p.HasPass, p.Pass = "t", true, "t" },
		func(p *api.Pack) { p.Will = api.Will{Topic: "t", Body: "t", Qos: 2, Retain: true} },
	} {
		wantMayNot(t, with(least()[0].p, set))
		wantMayNot(t, with(between()[1].p, set))
	}
	plain := api.Pack{Kind: api.PackPublish, Topic: "a"}
	wantMayNot(t, with(plain, func(p *api.Pack) { p.Dup = true }))
	wantMayNot(t, with(plain, func(p *api.Pack) { p.ID = 1 }))
	wantMayNot(t, with(plain, func(p *api.Pack) { p.Dup, p.ID = true, 1 }))
	wantMayNot(t, with(plain, func(p *api.Pack) { p.Qos = 1 }))
	wantMayNot(t, with(plain, func(p *api.Pack) { p.Qos, p.Dup = 2, true }))
	for code := range 6 {
		p := api.Pack{Kind: api.PackConnack, Code: code, Present: true}
		if code == 0 {
			wantMay(t, p, bytesOf("20 02 01 00"))
			continue
		}
		wantMayNot(t, p)
	}
}

func TestKindsThatAreNone(t *testing.T) {
	for _, k := range noKinds {
		wantMayNot(t, api.Pack{Kind: k})
		for _, one := range all() {
			wantMayNot(t, with(one.p, func(p *api.Pack) { p.Kind = k }))
		}
	}
}

var noKinds = []api.PackKind{0, 15, 16, 17, 31, 255, 257, 1 << 32, 1<<32 + 1, -1, -2, -15, math.MinInt, math.MinInt + 1, math.MaxInt}

// bound is something of a packet at or beside a bound.
type bound struct {
	set func(*api.Pack)
	may bool
}

// texts tells what becomes of a packet with texts of so many bytes.
func texts(set func(*api.Pack, string), least, most int, odd ...string) []bound {
	var all []bound
	for _, n := range []int{0, 1, 2, most - 1, most, most + 1, most + 2, 70000} {
		all = append(all, bound{func(p *api.Pack) { set(p, of(n)) }, n >= least && n <= most})
	}
	for _, s := range odd {
		all = append(all, bound{func(p *api.Pack) { set(p, s) }, false})
	}
	return all
}

// numbers tells what becomes of a packet with numbers of which those between both bounds may be.
func numbers(set func(*api.Pack, int64), least, most int64) []bound {
	var all []bound
	for _, n := range []int64{math.MinInt64, -1 << 32, -65536, -256, -2, -1, 0, 1, 2, 3, 4, 5, 6, 7, 127, 128, 129, 255, 256, 258, 65535, 65536, 65537, 1 << 32, 1<<32 + 1, math.MaxInt64} {
		all = append(all, bound{func(p *api.Pack) { set(p, n) }, n >= least && n <= most})
	}
	return all
}

// wantBounds holds a packet at all bounds against whether it may be so; what its bytes would be is no packet's if it may not.
func wantBounds(t *testing.T, p api.Pack, bounds ...[]bound) {
	t.Helper()
	for _, one := range slices.Concat(bounds...) {
		at := with(p, one.set)
		if toldMay(at) != one.may {
			t.Fatalf("%s: may it be?", brief(at))
		}
		wantTold(t, at)
	}
}

var (
	notSaid   = []string{"\xff", "a\xff", "\x00", "a\x00b", "\xc0\x80", "\xed\xa0\x80", "\xf4\x90\x80\x80", "\xe2\x82", "a\xc3", "\x80"}
	notNames  = append([]string{"+", "#", "a/+", "a/#", "a+", "#a", "a/+/b", strings.Repeat("a", 199) + "+"}, notSaid...)
	notFilter = append([]string{"a+", "+a", "#a", "a#", "#/", "#/a", "a/#/b", "++", "##", "a/+b", "a/b+/c", strings.Repeat("a", 199) + "#"}, notSaid...)
)

func TestBoundsOfConnect(t *testing.T) {
	p := api.Pack{Kind: api.PackConnect, Client: "x"}
	name := func(p *api.Pack, s string) { p.Client = s }
	keep := func(p *api.Pack, n int64) { p.Keep = n }
	wantBounds(t, p, texts(name, 1, 23, notSaid...), numbers(keep, 0, 65535))
	p.Clean = true
	wantBounds(t, p, texts(name, 0, 23, notSaid...), numbers(keep, 0, 65535))
	wantTold(t, with(p, func(p *api.Pack) { p.Client = "+/#" + strings.Repeat("ä", 10) }))
	wantTold(t, with(p, func(p *api.Pack) { p.Client = strings.Repeat("ä", 12) })) // 24 bytes
}

func TestBoundsOfAWill(t *testing.T) {
	for _, p := range []api.Pack{
		{Kind: api.PackConnect, Client: "x", HasWill: true, Will: api.Will{Topic: "w"}},
		full()[0].p,
	} {
		wantBounds(t, p,
			texts(func(p *api.Pack, s string) { p.Will.Topic = s }, 1, 200, notNames...),
			texts(func(p *api.Pack, s string) { p.Will.Body = s }, 0, 2000),
			numbers(func(p *api.Pack, n int64) { p.Will.Qos = int(n) }, 0, 2))
		for _, s := range notNames {
			wantTold(t, with(p, func(p *api.Pack) { p.Will.Body = s }))
		}
	}
}

func TestBoundsOfAUser(t *testing.T) {
	for _, p := range []api.Pack{
		{Kind: api.PackConnect, Client: "x", HasUser: true, HasPass: true},
		full()[0].p,
	} {
		wantBounds(t, p,
			texts(func(p *api.Pack, s string) { p.User = s }, 0, 200, notSaid...),
			texts(func(p *api.Pack, s string) { p.Pass = s }, 0, 200))
		for _, s := range notNames {
			wantMay(t, with(p, func(p *api.Pack) { p.Pass = s }), toldRaw(with(p, func(p *api.Pack) { p.Pass = s })))
		}
	}
	p := api.Pack{Kind: api.PackConnect, Client: "x", HasUser: true}
	wantBounds(t, p, texts(func(p *api.Pack, s string) { p.User = s }, 0, 200, notSaid...))
}

func TestBoundsOfConnack(t *testing.T) {
	wantBounds(t, api.Pack{Kind: api.PackConnack}, numbers(func(p *api.Pack, n int64) { p.Code = int(n) }, 0, 5))
}

func TestBoundsOfPublish(t *testing.T) {
	for _, p := range []api.Pack{
		{Kind: api.PackPublish, Topic: "a"},
		{Kind: api.PackPublish, Topic: "a", Body: "b", Qos: 1, ID: 5},
		full()[2].p,
	} {
		wantBounds(t, p,
			texts(func(p *api.Pack, s string) { p.Topic = s }, 1, 200, notNames...),
			texts(func(p *api.Pack, s string) { p.Body = s }, 0, 2000))
		for _, s := range notNames {
			wantMay(t, with(p, func(p *api.Pack) { p.Body = s }), toldRaw(with(p, func(p *api.Pack) { p.Body = s })))
		}
	}
	wantBounds(t, api.Pack{Kind: api.PackPublish, Topic: "a", Qos: 1, ID: 5}, numbers(func(p *api.Pack, n int64) { p.Qos = int(n) }, 1, 2))
	wantBounds(t, api.Pack{Kind: api.PackPublish, Topic: "a"}, numbers(func(p *api.Pack, n int64) { p.Qos = int(n) }, 0, 0))
	for qos := 1; qos <= 2; qos++ {
		wantBounds(t, api.Pack{Kind: api.PackPublish, Topic: "a", Qos: qos}, numbers(func(p *api.Pack, n int64) { p.ID = n }, 1, 65535))
	}
	wantBounds(t, api.Pack{Kind: api.PackPublish, Topic: "a"}, numbers(func(p *api.Pack, n int64) { p.ID = n }, 0, 0))
}

func TestBoundsOfIDs(t *testing.T) {
	for _, one := range slices.Concat(least(), full()) {
		if one.p.Kind != api.PackPublish && one.p.ID > 0 {
			wantBounds(t, one.p, numbers(func(p *api.Pack, n int64) { p.ID = n }, 1, 65535))
		}
	}
}

// What a list has may be at each place of it.
func TestBoundsOfWants(t *testing.T) {
	for n := range 12 {
		p := api.Pack{Kind: api.PackSubscribe, ID: 5, Wants: slices.Repeat([]api.Want{{Filter: "a"}}, n)}
		wantBounds(t, p, []bound{{func(*api.Pack) {}, n >= 1 && n <= 8}})
		if n < 1 || n > 8 {
			continue
		}
		for at := range n {
			wantBounds(t, p,
				texts(func(p *api.Pack, s string) { p.Wants = slices.Clone(p.Wants); p.Wants[at].Filter = s }, 1, 200, notFilter...),
				numbers(func(p *api.Pack, n int64) { p.Wants = slices.Clone(p.Wants); p.Wants[at].Qos = int(n) }, 0, 2))
		}
	}
}

func TestBoundsOfCodes(t *testing.T) {
	for n := range 12 {
		p := api.Pack{Kind: api.PackSuback, ID: 5, Codes: slices.Repeat([]int{1}, n)}
		wantBounds(t, p, []bound{{func(*api.Pack) {}, n >= 1 && n <= 8}})
		if n < 1 || n > 8 {
			continue
		}
		for at := range n {
			for _, code := range []int{-1, 0, 1, 2, 3, 4, 127, 128, 129, 130, 255, 256, 258, 384, math.MinInt, math.MaxInt} {
				may := code >= 0 && code <= 2 || code == 128
				wantBounds(t, p, []bound{{func(p *api.Pack) { p.Codes = slices.Clone(p.Codes); p.Codes[at] = code }, may}})
			}
		}
	}
}

func TestBoundsOfFilters(t *testing.T) {
	for n := range 12 {
		p := api.Pack{Kind: api.PackUnsubscribe, ID: 5, Filters: slices.Repeat([]string{"a"}, n)}
		wantBounds(t, p, []bound{{func(*api.Pack) {}, n >= 1 && n <= 8}})
		if n < 1 || n > 8 {
			continue
		}
		for at := range n {
			wantBounds(t, p, texts(func(p *api.Pack, s string) { p.Filters = slices.Clone(p.Filters); p.Filters[at] = s }, 1, 200, notFilter...))
		}
	}
}

func TestManyThings(t *testing.T) {
	for _, one := range all() {
		for _, set := range []func(*api.Pack){
			func(p *api.Pack) { p.Topic = of(1 << 20) },
			func(p *api.Pack) { p.Body = of(1 << 20) },
			func(p *api.Pack) { p.Client = of(1 << 20) },
			func(p *api.Pack) { p.Will.Body = of(1 << 20) },
			func(p *api.Pack) { p.User = of(1 << 20) },
			func(p *api.Pack) { p.Pass = of(1 << 20) },
			func(p *api.Pack) { p.Wants = make([]api.Want, 1<<16) },
			func(p *api.Pack) { p.Codes = make([]int, 1<<16) },
			func(p *api.Pack) { p.Filters = make([]string, 1<<16) },
		} {
			wantMayNot(t, with(one.p, set))
		}
	}
}

// Nil and empty lists are the same, whether a Kind has them or not.
func TestEmptyLists(t *testing.T) {
	for _, one := range all() {
		p := one.p
		if len(p.Wants) == 0 {
			p.Wants = []api.Want{}
		}
		if len(p.Codes) == 0 {
			p.Codes = []int{}
		}
		if len(p.Filters) == 0 {
			p.Filters = []string{}
		}
		wantMay(t, p, bytesOf(one.digits))
		if !packet.Same(p, one.p) || !packet.Same(one.p, p) {
			t.Errorf("%s and %s are not the same", brief(p), brief(one.p))
		}
	}
	for _, k := range []api.PackKind{api.PackSubscribe, api.PackSuback, api.PackUnsubscribe} {
		wantMayNot(t, api.Pack{Kind: k, ID: 1})
		wantMayNot(t, api.Pack{Kind: k, ID: 1, Wants: []api.Want{}, Codes: []int{}, Filters: []string{}})
	}
}

// P16.1: Parse

func TestParseOfNothing(t *testing.T) {
	wantNoParse(t, nil)
	wantNoParse(t, []byte{})
	for first := range 256 {
		wantNoParse(t, []byte{byte(first)})
	}
}

func TestParseOfWhatIsCut(t *testing.T) {
	for _, one := range all() {
		b := bytesOf(one.digits)
		for cut := range b {
			wantNoParse(t, b[:cut])
			if cut > 0 {
				wantNoParse(t, b[cut:cut:cut])
			}
		}
	}
}

// The same, where the length tells of just what is left: a text, a number, a list that is not all there. Of a PackPublish the Body is as long as what is left.
func TestParseOfWhatIsCutBehindItsLength(t *testing.T) {
	for _, one := range all() {
		b := bytesOf(one.digits)
		behind := b[2:]
		if b[1] >= 128 {
			behind = b[3:]
		}
		for cut := range behind {
			cutShort := toldFrame(int(b[0]), behind[:cut])
			if is := wantParseTold(t, cutShort); is && one.p.Kind != api.PackPublish && one.p.Kind != api.PackSubscribe && one.p.Kind != api.PackSuback && one.p.Kind != api.PackUnsubscribe {
				t.Errorf("%x is a packet", cutShort)
			}
		}
	}
}

func TestParseOfMoreBehind(t *testing.T) {
	for _, one := range all() {
		b := bytesOf(one.digits)
		for _, more := range [][]byte{{0}, {1}, {0xff}, {0, 0}, {0, 1, 'a'}, {0, 1, 'a', 0}, b} {
			wantNoParse(t, slices.Concat(b, more))
			if b[1] < 128-byte(len(more)) {
				longer := toldFrame(int(b[0]), slices.Concat(b[2:], more))
				if is := wantParseTold(t, longer); is && one.p.Kind != api.PackPublish && one.p.Kind != api.PackSubscribe && one.p.Kind != api.PackSuback && one.p.Kind != api.PackUnsubscribe {
					t.Errorf("%x is a packet", longer)
				}
			}
		}
	}
}

func TestParseOfWrongLengths(t *testing.T) {
	for _, one := range slices.Concat(least(), full()) {
		b := bytesOf(one.digits)
		first, n, behind := b[:1], int(b[1]), b[2:]
		for other := range 300 {
			if other != n {
				wantNoParse(t, slices.Concat(first, bytesOf(toldLength(other)), behind))
			}
		}
		low := byte(n)
		for _, size := range [][]byte{
			{}, {low | 128}, {low | 128, 0}, {low | 128, 128, 0}, {low | 128, 128, 128, 0}, {low | 128, 128, 128, 128}, {low | 128, 128, 128, 128, 0}, {low | 128, 128, 128, 128, 128, 0}, // not in as few as may be, or none
			{low | 128, 1}, {low | 128, 128, 1}, {low | 128, 128, 128, 1}, {0xff, 0xff, 0xff, 0x7f}, {0xff, 0xff, 0xff, 0xff},
		} {
			wantNoParse(t, slices.Concat(first, size, behind))
		}
	}
	long := of(125) // with a length of two bytes
	wantParse(t, slices.Concat(bytesOf("30 80 01 0001 61"), []byte(long)), api.Pack{Kind: api.PackPublish, Topic: "a", Body: long})
	wantNoParse(t, slices.Concat(bytesOf("30 80 81 00 0001 61"), []byte(long)))
	wantNoParse(t, slices.Concat(bytesOf("30 7f 0001 61"), []byte(long)))
	wantNoParse(t, slices.Concat(bytesOf("30 81 01 0001 61"), []byte(long)))
}

// Each Kind has its own flags alone.
func TestParseOfOtherLowBits(t *testing.T) {
	for _, one := range all() {
		b := bytesOf(one.digits)
		own := b[0] % 16
		for low := range byte(16) {
			other := slices.Concat([]byte{b[0] - own + low}, b[1:])
			is := wantParseTold(t, other)
			if one.p.Kind != api.PackPublish && is != (low == own) {
				t.Errorf("%x: is it a packet? %t", other, is)
			}
		}
	}
}

func TestParseOfEachFirstByte(t *testing.T) {
	for _, one := range all() {
		b := bytesOf(one.digits)
		for first := range 256 {
			wantParseTold(t, slices.Concat([]byte{byte(first)}, b[1:]))
		}
	}
	for _, first := range []byte{0x00, 0x02, 0xf0, 0xf2, 0xff} {
		wantNoParse(t, []byte{first, 0})
		wantNoParse(t, []byte{first, 2, 0, 1})
	}
}

func TestFlagsOfPublish(t *testing.T) {
	for low := range 16 {
		p := api.Pack{Kind: api.PackPublish, Topic: "a", Retain: low%2 == 1, Qos: low / 2 % 4, Dup: low >= 8}
		behind := bytesOf("0001 61 0102 62")
		p.Body = "\x01\x02b"
		if p.Qos > 0 {
			p.ID, p.Body = 258, "b"
		}
		b := toldFrame(0x30+low, behind)
		if p.Qos == 3 || p.Qos == 0 && p.Dup {
			wantNoParse(t, b)
			wantMayNot(t, p)
			continue
		}
		wantMay(t, p, b)
	}
	for _, b := range []string{"32 05 0001 61 0000", "34 05 0001 61 0000", "3a 07 0001 61 0000 6869"} { // of no ID
		wantNoParse(t, bytesOf(b))
	}
}

// Each byte of flags, with just what stands behind it if they are these.
func TestFlagsOfConnect(t *testing.T) {
	for flags := range 256 {
		has := func(bit int) bool { return flags&bit > 0 }
		p := api.Pack{Kind: api.PackConnect, Client: "x", Clean: has(2), HasWill: has(4), HasPass: has(64), HasUser: has(128)}
		b := slices.Concat(bytesOf("0004 4d515454 04"), []byte{byte(flags)}, bytesOf("0005 0001 78"))
		p.Keep = 5
		if p.HasWill {
			p.Will = api.Will{Topic: "w", Body: "v", Qos: flags / 8 % 4, Retain: has(32)}
			b = append(b, 0, 1, 'w', 0, 1, 'v')
		}
		if p.HasUser {
			p.User = "u"
			b = append(b, 0, 1, 'u')
		}
		if p.HasPass {
			p.Pass = "p"
			b = append(b, 0, 1, 'p')
		}
		b = toldFrame(0x10, b)
		wrong := has(1) || has(8) && has(16) || !has(4) && flags&(8+16+32) > 0 || has(64) && !has(128)
		if wrong {
			wantNoParse(t, b)
			continue
		}
		wantMay(t, p, b)
	}
}

// What stands behind other flags than these is not what they tell.
func TestFlagsOfConnectAgainstWhatIsThere(t *testing.T) {
	for _, one := range all() {
		if one.p.Kind != api.PackConnect {
			continue
		}
		for flags := range 256 {
			b := bytesOf(one.digits)
			b[9] = byte(flags)
			wantParseTold(t, b)
		}
	}
}

func TestParseOfMQTTWrittenOtherwise(t *testing.T) {
	behind := bytesOf("02 000a 0001 78")
	for _, name := range []string{"", "M", "MQT", "MQTt", "mqtt", "Mqtt", "MQTTT", "MQTT ", " MQTT", "MQIsdp", "MQTS", "NQTT", "\x00QTT", "M\xd1TT"} {
		wantNoParse(t, toldFrame(0x10, slices.Concat([]byte{0, byte(len(name))}, []byte(name), []byte{4}, behind)))
	}
	for _, head := range []string{"0004 4d51", "0003 4d515454", "0005 4d515454", "0104 4d515454", "04 4d515454", "4d515454", "000004 4d515454"} {
		wantNoParse(t, toldFrame(0x10, slices.Concat(bytesOf(head), []byte{4}, behind)))
	}
	for level := range 256 {
		b := toldFrame(0x10, slices.Concat(bytesOf("0004 4d515454"), []byte{byte(level)}, behind))
		if level == 4 {
			wantParse(t, b, api.Pack{Kind: api.PackConnect, Client: "x", Clean: true, Keep: 10})
			continue
		}
		wantNoParse(t, b)
	}
}

// Bytes that would be those of a packet if it might be.
func TestParseOfWhatMayNotBe(t *testing.T) {
	for _, one := range all() {
		for _, set := range []func(*api.Pack){
			func(p *api.Pack) { p.ID = 0 },
			func(p *api.Pack) { p.Client, p.Clean = "", false },
			func(p *api.Pack) { p.Client = of(24) },
			func(p *api.Pack) { p.Code = 6 },
			func(p *api.Pack) { p.Code = 255 },
			func(p *api.Pack) { p.Present, p.Code = true, 1 },
			func(p *api.Pack) { p.Topic = "" },
			func(p *api.Pack) { p.Topic = of(201) },
			func(p *api.Pack) { p.Body = of(2001) },
			func(p *api.Pack) { p.Will.Topic = "" },
			func(p *api.Pack) { p.Will.Topic = of(201) },
			func(p *api.Pack) { p.Will.Body = of(2001) },
			func(p *api.Pack) { p.User = of(201) },
			func(p *api.Pack) { p.Pass = of(201) },
			func(p *api.Pack) { p.Wants = nil },
			func(p *api.Pack) { p.Wants = slices.Repeat([]api.Want{{Filter: "a"}}, 9) },
			func(p *api.Pack) { p.Wants = []api.Want{{Filter: ""}} },
			func(p *api.Pack) { p.Wants = []api.Want{{Filter: of(201)}} },
			func(p *api.Pack) { p.Wants = []api.Want{{Filter: "a", Qos: 3}} },
			func(p *api.Pack) { p.Wants = []api.Want{{Filter: "a", Qos: 128}} },
			func(p *api.Pack) { p.Codes = nil },
			func(p *api.Pack) { p.Codes = slices.Repeat([]int{1}, 9) },
			func(p *api.Pack) { p.Codes = []int{0, 3} },
			func(p *api.Pack) { p.Codes = []int{127, 0} },
			func(p *api.Pack) { p.Codes = []int{129} },
			func(p *api.Pack) { p.Filters = nil },
			func(p *api.Pack) { p.Filters = slices.Repeat([]string{"a"}, 9) },
			func(p *api.Pack) { p.Filters = []string{""} },
			func(p *api.Pack) { p.Filters = []string{"a", of(201)} },
		} {
			p := with(one.p, set)
			wantParseTold(t, toldRaw(p))
		}
	}
	for _, digits := range []string{
		"40 02 0000", "50 02 0000", "62 02 0000", "70 02 0000", "b0 02 0000", "82 06 0000 0001 61 00", "90 03 0000 00", "a2 05 0000 0001 61", // no ID
		"20 02 00 06", "20 02 02 00", "20 02 ff 00", "20 02 01 01", "20 02 01 05",
		"30 02 0000", "30 03 0000 61", "30 03 0001 2b", "30 03 0001 23", "30 03 0001 00", "30 03 0001 ff",
		"82 02 0001", "90 02 0001", "a2 02 0001", // nothing in a list
		"82 05 0001 0000 00", "82 06 0001 0001 61 03", "82 06 0001 0001 00 00", "82 07 0001 0002 6123 00", "82 06 0001 0001 ff 00",
		"90 03 0001 03", "90 03 0001 7f", "90 03 0001 81", "90 04 0001 0003", "90 0b 0001 000000000000000000",
		"a2 04 0001 0000", "a2 05 0001 0001 ff", "a2 06 0001 0002 2b2b",
		"c0 01 00", "d0 01 00", "e0 01 00", "c0 02 0001",
		"10 0c 0004 4d515454 04 00 0000 0000",    // no Client, not Clean
		"10 0d 0004 4d515454 04 02 0000 0001 ff", // a Client that may not be said
		"10 0d 0004 4d515454 04 02 0000 0001 00",
		"10 0c 0004 4d515454 04 03 0000 0000",            // the lowest bit
		"10 0c 0004 4d515454 04 22 0000 0000",            // a Will's Retain, but no Will
		"10 0c 0004 4d515454 04 0a 0000 0000",            // a Will's Qos, but no Will
		"10 0e 0004 4d515454 04 42 0000 0000 0000",       // Pass, but no User
		"10 11 0004 4d515454 04 1e 0000 0000 0001 77 00", // Qos 3, and a Body that is not all there
		"10 12 0004 4d515454 04 1e 0000 0000 0001 77 0000",
	} {
		wantNoParse(t, bytesOf(digits))
	}
}

// Texts that may not be said, at each place at which there is one.
func TestParseOfTextsThatMayNotBeSaid(t *testing.T) {
	for _, s := range notSaid {
		for _, p := range []api.Pack{
			{Kind: api.PackConnect, Client: s},
			{Kind: api.PackConnect, Client: s, Clean: true},
			{Kind: api.PackConnect, Client: "x", HasWill: true, Will: api.Will{Topic: s}},
			{Kind: api.PackConnect, Client: "x", HasUser: true, User: s},
			{Kind: api.PackPublish, Topic: s},
			{Kind: api.PackPublish, Topic: s, Qos: 1, ID: 1, Body: "b"},
			{Kind: api.PackSubscribe, ID: 1, Wants: []api.Want{{Filter: s}}},
			{Kind: api.PackSubscribe, ID: 1, Wants: []api.Want{{Filter: "a"}, {Filter: s, Qos: 1}}},
			{Kind: api.PackUnsubscribe, ID: 1, Filters: []string{s}},
			{Kind: api.PackUnsubscribe, ID: 1, Filters: []string{"a", s, "b"}},
		} {
			wantMayNot(t, p)
			wantNoParse(t, toldRaw(p))
		}
		for _, p := range []api.Pack{
			{Kind: api.PackConnect, Client: "x", HasWill: true, Will: api.Will{Topic: "w", Body: s}},
			{Kind: api.PackConnect, Client: "x", HasUser: true, HasPass: true, Pass: s},
			{Kind: api.PackPublish, Topic: "a", Body: s},
		} {
			wantMay(t, p, toldRaw(p))
		}
	}
}

func TestParseOfManyBytes(t *testing.T) {
	for first := range 256 {
		for _, one := range []byte{0, 1, 0x80, 0xff} {
			many := bytes.Repeat([]byte{one}, 1<<17)
			wantNoParse(t, toldFrame(first, many))
			wantNoParse(t, toldFrame(first, slices.Concat([]byte{0, 1}, many)))
			wantNoParse(t, slices.Concat([]byte{byte(first)}, many))
		}
	}
}

// The greatest packets that there are.
func TestGreatest(t *testing.T) {
	p := api.Pack{Kind: api.PackConnect, Client: of(23), Keep: 65535, HasWill: true, Will: api.Will{Topic: of(200), Body: of(2000), Qos: 2, Retain: true}, HasUser: true, HasPass: true, User: of(200), Pass: of(200)}
	q := api.Pack{Kind: api.PackPublish, Topic: of(200), Body: of(2000), Qos: 2, ID: 65535, Dup: true, Retain: true}
	r := api.Pack{Kind: api.PackSubscribe, ID: 65535, Wants: slices.Repeat([]api.Want{want(of(200), 2)}, 8)}
	s := api.Pack{Kind: api.PackUnsubscribe, ID: 65535, Filters: slices.Repeat([]string{of(200)}, 8)}
	for size, p := range map[int]api.Pack{3 + 2643: p, 3 + 2204: q, 3 + 1626: r, 3 + 1618: s} {
		if b, e := packet.Raw(p); len(b) != size || e != api.OK {
			t.Errorf("Raw of Kind %d: %d bytes %v, want %d", p.Kind, len(b), e, size)
		}
		wantMay(t, p, toldRaw(p))
	}
}

// P16.2

func TestSame(t *testing.T) {
	packs := []api.Pack{{}, {Kind: -1}, {Kind: math.MaxInt, Code: -1, Qos: math.MinInt}}
	for _, one := range all() {
		packs = append(packs, one.p)
	}
	for i, a := range packs {
		for j, b := range packs {
			if want := alike(a, b); packet.Same(a, b) != want || i == j && !want {
				t.Errorf("Same(%s, %s) is not %t", brief(a), brief(b), want)
			}
		}
	}
}

// Packets that differ in any one thing, also such as may not be.
func TestSameOfOneThingElse(t *testing.T) {
	packs := []api.Pack{{}, {Kind: 99}}
	for _, one := range all() {
		packs = append(packs, one.p)
	}
	for _, p := range packs {
		differ := append(things(),
			thing{"Kind", func(p *api.Pack) { p.Kind++ }},
			thing{"Kind", func(p *api.Pack) { p.Kind += 1 << 32 }},
			thing{"no Dup", func(p *api.Pack) { p.Dup = !p.Dup }},
			thing{"no Clean", func(p *api.Pack) { p.Clean = !p.Clean }},
			thing{"no Will", func(p *api.Pack) { p.HasWill = !p.HasWill }},
			thing{"ID", func(p *api.Pack) { p.ID += 1 << 32 }},
			thing{"Keep", func(p *api.Pack) { p.Keep += 1 << 32 }},
			thing{"Qos", func(p *api.Pack) { p.Qos-- }},
			thing{"Topic", func(p *api.Pack) { p.Topic += "\x00" }},
			thing{"Topic and Body", func(p *api.Pack) { p.Topic, p.Body = p.Body, p.Topic }},
			thing{"User and Pass", func(p *api.Pack) { p.User, p.Pass = p.Pass, p.User }})
		for _, thing := range differ {
			other := with(p, thing.set)
			want := alike(p, other)
			if packet.Same(p, other) != want || packet.Same(other, p) != want {
				t.Errorf("%s: Same of %s and %s is not %t", thing.name, brief(p), brief(other), want)
			}
			if !packet.Same(other, other) {
				t.Errorf("%s is not the same as itself", brief(other))
			}
		}
	}
}

func TestSameOfLists(t *testing.T) {
	wants := [][]api.Want{nil, {}, {{}}, {want("a", 0)}, {want("a", 1)}, {want("b", 0)}, {want("a", 0), want("a", 0)}, {want("a", 0), want("b", 1)}, {want("b", 1), want("a", 0)}, {want("a", 0), want("b", 0)}}
	codes := [][]int{nil, {}, {0}, {1}, {0, 0}, {0, 1}, {1, 0}, {0, 1, 2}, {0, 0, 0}}
	filters := [][]string{nil, {}, {""}, {"a"}, {"b"}, {"a", "b"}, {"b", "a"}, {"ab"}, {"a", "b", ""}, {"", ""}}
	var packs []api.Pack
	for _, l := range wants {
		packs = append(packs, api.Pack{Kind: api.PackSubscribe, ID: 1, Wants: l})
	}
	for _, l := range codes {
		packs = append(packs, api.Pack{Kind: api.PackSubscribe, ID: 1, Codes: l})
	}
	for _, l := range filters {
		packs = append(packs, api.Pack{Kind: api.PackSubscribe, ID: 1, Filters: l})
	}
	for _, a := range packs {
		for _, b := range packs {
			if want := alike(a, b); packet.Same(a, b) != want {
				t.Errorf("Same(%s, %s) is not %t", brief(a), brief(b), want)
			}
		}
	}
}

func TestAsks(t *testing.T) {
	for k := range api.PackKind(200) {
		want := slices.Contains([]api.PackKind{1, 3, 4, 5, 6, 7, 8, 10, 12, 14}, k)
		if packet.Asks(k) != want {
			t.Errorf("Asks(%d) is not %t", k, want)
		}
	}
	for _, k := range noKinds {
		if packet.Asks(k) {
			t.Errorf("Asks(%d)", k)
		}
	}
}

func TestText(t *testing.T) {
	for i, want := range strings.Fields("connect connack publish puback pubrec pubrel pubcomp subscribe suback unsubscribe unsuback pingreq pingresp disconnect") {
		if s, e := packet.Text(api.PackKind(i + 1)); s != want || e != api.OK {
			t.Errorf("Text(%d): %q %v", i+1, s, e)
		}
	}
	for _, k := range noKinds {
		if s, e := packet.Text(k); s != "" || e != api.ErrArg {
			t.Errorf("Text(%d): %q %v", k, s, e)
		}
	}
}

// What is answered is new, and what is handed in stays as it is.

func TestRawIsNew(t *testing.T) {
	for _, one := range all() {
		a, _ := packet.Raw(one.p)
		b, _ := packet.Raw(one.p)
		clear(a[:cap(a)])
		if !bytes.Equal(b, bytesOf(one.digits)) {
			t.Errorf("%x hangs on another answer", b)
		}
		wantMay(t, one.p, bytesOf(one.digits))
	}
}

func TestPacketsStayAsTheyAre(t *testing.T) {
	wants := slices.Repeat([]api.Want{want("c", 1), want("a", 2), want("b", 0)}, 7)
	codes := slices.Repeat([]int{2, 128, 0, 1}, 6)
	filters := slices.Repeat([]string{"c", "a", "b"}, 7)
	keptWants, keptCodes, keptFilters := slices.Clone(wants), slices.Clone(codes), slices.Clone(filters)
	for _, n := range []int{0, 1, 8, 9} {
		for _, p := range []api.Pack{
			{Kind: api.PackSubscribe, ID: 1, Wants: wants[:n]},
			{Kind: api.PackSuback, ID: 1, Codes: codes[:n]},
			{Kind: api.PackUnsubscribe, ID: 1, Filters: filters[:n]},
			{Kind: api.PackUnsubscribe, ID: 1, Filters: filters[:n], Wants: wants[:n], Codes: codes[:n]},
		} {
			packet.Check(p)
			packet.Raw(p)
			packet.Same(p, p)
		}
	}
	if !slices.Equal(wants, keptWants) || !slices.Equal(codes, keptCodes) || !slices.Equal(filters, keptFilters) {
		t.Errorf("lists are other ones: %v %v %v", wants, codes, filters)
	}
}

// Bytes that were told do not change with the lists of the packet.
func TestRawIsApart(t *testing.T) {
	for _, one := range all() {
		p := one.p
		b, _ := packet.Raw(p)
		clear(p.Wants)
		clear(p.Codes)
		clear(p.Filters)
		if !bytes.Equal(b, bytesOf(one.digits)) {
			t.Errorf("%x hangs on its packet", b)
		}
	}
}

func TestParseLeavesItsBytes(t *testing.T) {
	for _, one := range all() {
		whole := bytesOf(one.digits)
		for cut := range len(whole) + 1 {
			room := slices.Concat(whole[:cut], []byte("more"))
			kept := slices.Clone(room)
			packet.Parse(room[:cut])
			if !bytes.Equal(room, kept) {
				t.Errorf("bytes were changed: %x, they were %x", room, kept)
			}
		}
	}
}

func TestParseIsApart(t *testing.T) {
	for _, one := range slices.Concat(full(), between()) {
		b := bytesOf(one.digits)
		p, _ := packet.Parse(b)
		q, _ := packet.Parse(b)
		clear(b)
		if !alike(p, one.p) {
			t.Errorf("%s hangs on its bytes", brief(p))
		}
		clear(p.Wants[:cap(p.Wants)])
		clear(p.Codes[:cap(p.Codes)])
		clear(p.Filters[:cap(p.Filters)])
		if !alike(q, one.p) {
			t.Errorf("%s hangs on another answer", brief(q))
		}
		wantParse(t, bytesOf(one.digits), one.p)
	}
}

// P16.3

func TestParseOfRaw(t *testing.T) {
	for _, one := range all() {
		b, e := packet.Raw(one.p)
		if e != api.OK {
			t.Errorf("Raw(%s): %v", brief(one.p), e)
		}
		if p, e := packet.Parse(b); !packet.Same(p, one.p) || e != api.OK {
			t.Errorf("Parse of Raw(%s): %s %v", brief(one.p), brief(p), e)
		}
	}
}

func TestRawOfParse(t *testing.T) {
	for _, one := range all() {
		b := bytesOf(one.digits)
		p, e := packet.Parse(b)
		if e != api.OK {
			t.Errorf("Parse(%x): %v", b, e)
		}
		if again, e := packet.Raw(p); !bytes.Equal(again, b) || e != api.OK {
			t.Errorf("Raw of Parse(%x): %x %v", b, again, e)
		}
	}
}

func TestNoPacketBeginsAnother(t *testing.T) {
	for _, a := range all() {
		for _, b := range all() {
			long, _ := packet.Raw(b.p)
			begin, _ := packet.Raw(a.p)
			if !alike(a.p, b.p) && bytes.HasPrefix(long, begin) {
				t.Errorf("%x begins with %x", long, begin)
			}
		}
	}
}

// Of other bytes none are a packet's that begin as one does, or with which one begins.
func TestNoBytesBeginAsAPacket(t *testing.T) {
	for seed := range 2000 {
		d := dice(seed)
		b, _ := packet.Raw(d.pack())
		if len(b) == 0 {
			t.Fatalf("seed %d: no bytes", seed)
		}
		wantNoParse(t, b[:d.roll(len(b))])
		behind := make([]byte, 1+d.roll(5))
		for i := range behind {
			behind[i] = byte(d.roll(256))
		}
		wantNoParse(t, slices.Concat(b, behind))
		wantNoParse(t, slices.Concat(b, b))
	}
}
