package packet_test

import (
	"bytes"
	"encoding/hex"
	"fmt"
	"math/bits"
	"reflect"
	"regexp"
	"slices"
	"strings"
	"testing"
	"unicode/utf8"

	"pigeonry/api"
	"pigeonry/packet"
)

var (
	toldNames   = regexp.MustCompile(`\A[^+#]+\z`)
	toldFilters = regexp.MustCompile(`\A(#|(\+|[^+#/]*)(/(\+|[^+#/]*))*(/#)?)\z`)
)

// toldSaid tells whether a text may be said, and has from least to most bytes.
func toldSaid(s string, least, most int) bool {
	return len(s) >= least && len(s) <= most && utf8.ValidString(s) && !strings.Contains(s, "\x00")
}

func toldName(s string) bool { return toldSaid(s, 1, 200) && toldNames.MatchString(s) }

func toldFilter(s string) bool { return toldSaid(s, 1, 200) && toldFilters.MatchString(s) }

// toldHas names what a packet has, as the chapter's table tells it.
func toldHas(p api.Pack) []string {
	has := []string{"Kind"}
	switch p.Kind {
	case api.PackConnect:
		has = append(has, "Client", "Clean", "Keep", "HasWill", "HasUser")
		if p.HasWill {
			has = append(has, "Will")
		}
		if p.HasUser {
			has = append(has, "User", "HasPass")
		}
		if p.HasUser && p.HasPass {
			has = append(has, "Pass")
		}
	case api.PackConnack:
		has = append(has, "Code")
		if p.Code == 0 {
			has = append(has, "Present")
		}
	case api.PackPublish:
		has = append(has, "Topic", "Body", "Qos", "Retain")
		if p.Qos > 0 {
			has = append(has, "ID", "Dup")
		}
	case api.PackPuback, api.PackPubrec, api.PackPubrel, api.PackPubcomp, api.PackUnsuback:
		has = append(has, "ID")
	case api.PackSubscribe:
		has = append(has, "ID", "Wants")
	case api.PackSuback:
		has = append(has, "ID", "Codes")
	case api.PackUnsubscribe:
		has = append(has, "ID", "Filters")
	}
	return has
}

// toldElse tells whether a packet has anything else.
func toldElse(p api.Pack) bool {
	has, all := toldHas(p), reflect.ValueOf(p)
	for i := range all.NumField() {
		one := all.Field(i)
		zero := one.IsZero() || one.Kind() == reflect.Slice && one.Len() == 0
		if !zero && !slices.Contains(has, all.Type().Field(i).Name) {
			return true
		}
	}
	return false
}

// toldMay tells whether a packet may be.
func toldMay(p api.Pack) bool {
	if p.Kind < 1 || p.Kind > 14 || toldElse(p) {
		return false
	}
	few := func(n int) bool { return n >= 1 && n <= 8 }
	qos := func(n int) bool { return n == 0 || n == 1 || n == 2 }
	has := toldHas(p)
	if slices.Contains(has, "ID") && (p.ID < 1 || p.ID > 65535) {
		return false
	}
	switch p.Kind {
	case api.PackConnect:
		least := 1
		if p.Clean {
			least = 0
		}
		w := p.Will
		return toldSaid(p.Client, least, 23) && p.Keep >= 0 && p.Keep <= 65535 && len(p.Pass) <= 200 && toldSaid(p.User, 0, 200) &&
			(!p.HasWill || toldName(w.Topic) && len(w.Body) <= 2000 && qos(w.Qos))
	case api.PackConnack:
		return p.Code >= 0 && p.Code <= 5
	case api.PackPublish:
		return toldName(p.Topic) && len(p.Body) <= 2000 && qos(p.Qos)
	case api.PackSubscribe:
		return few(len(p.Wants)) && !slices.ContainsFunc(p.Wants, func(w api.Want) bool { return !toldFilter(w.Filter) || !qos(w.Qos) })
	case api.PackSuback:
		return few(len(p.Codes)) && !slices.ContainsFunc(p.Codes, func(n int) bool { return !qos(n) && n != 128 })
	case api.PackUnsubscribe:
		return few(len(p.Filters)) && !slices.ContainsFunc(p.Filters, func(s string) bool { return !toldFilter(s) })
	}
	return true
}

// toldLength tells a length's bytes by digits to the base 16.
func toldLength(n int) string {
	digits := ""
	for n >= 128 {
		digits += fmt.Sprintf("%02x", 128+n%128)
		n /= 128
	}
	return digits + fmt.Sprintf("%02x", n)
}

// toldFrame tells the bytes of a first byte, and of what stands behind the length.
func toldFrame(first int, behind []byte) []byte {
	return bytesOf(fmt.Sprintf("%02x", first) + toldLength(len(behind)) + hex.EncodeToString(behind))
}

// toldRaw tells a packet's bytes as the chapter tells them, by digits to the base 16, if its numbers have room there, and it is of a Kind, whether it may be or not.
func toldRaw(p api.Pack) []byte {
	text := func(s string) string { return fmt.Sprintf("%04x%x", len(s), s) }
	one := func(is bool) int {
		if is {
			return 1
		}
		return 0
	}
	low, behind := 0, ""
	switch p.Kind {
	case api.PackConnect:
		w := p.Will
		flags := 128*one(p.HasUser) + 64*one(p.HasPass) + 32*one(w.Retain) + 8*w.Qos + 4*one(p.HasWill) + 2*one(p.Clean)
		behind = text("MQTT") + fmt.Sprintf("04%02x%04x", flags, p.Keep) + text(p.Client)
		if p.HasWill {
			behind += text(w.Topic) + text(w.Body)
		}
		if p.HasUser {
			behind += text(p.User)
		}
		if p.HasPass {
			behind += text(p.Pass)
		}
	case api.PackConnack:
		behind = fmt.Sprintf("%02x%02x", one(p.Present), p.Code)
	case api.PackPublish:
		low = 8*one(p.Dup) + 2*p.Qos + one(p.Retain)
		behind = text(p.Topic)
		if p.Qos > 0 {
			behind += fmt.Sprintf("%04x", p.ID)
		}
		behind += fmt.Sprintf("%x", p.Body)
	case api.PackPingreq, api.PackPingresp, api.PackDisconnect:
	default:
		behind = fmt.Sprintf("%04x", p.ID)
		for _, w := range p.Wants {
			behind += text(w.Filter) + fmt.Sprintf("%02x", w.Qos)
		}
		for _, n := range p.Codes {
			behind += fmt.Sprintf("%02x", n)
		}
		for _, s := range p.Filters {
			behind += text(s)
		}
	}
	switch p.Kind {
	case api.PackPubrel, api.PackSubscribe, api.PackUnsubscribe:
		low = 2
	}
	return bytesOf(fmt.Sprintf("%x%x", int(p.Kind), low) + toldLength(len(behind)/2) + behind)
}

// taker takes bytes from the first one on, and gives up where there are too few.
type taker struct{ left []byte }

func (k *taker) bytes(n int) string {
	if n > len(k.left) {
		panic("too few")
	}
	s := string(k.left[:n])
	k.left = k.left[n:]
	return s
}

func (k *taker) number(n int) (sum int) {
	for _, one := range []byte(k.bytes(n)) {
		sum = sum*256 + int(one)
	}
	return sum
}

func (k *taker) text() string { return k.bytes(k.number(2)) }

// toldBehind takes the length, and tells whether it is one, and just that of what stands behind it.
func (k *taker) toldBehind() bool {
	sum, each := 0, 1
	for i := range 4 {
		one := k.number(1)
		sum, each = sum+one%128*each, each*128
		if one < 128 {
			return (one > 0 || i == 0) && sum == len(k.left)
		}
	}
	return false
}

// toldParse tells the packet of bytes, as the chapter tells it, and whether there is one.
func toldParse(b []byte) (p api.Pack, is bool) {
	defer func() {
		if recover() != nil || !is {
			p, is = api.Pack{}, false
		}
	}()
	k := &taker{b}
	first := k.number(1)
	low := first % 16
	p.Kind = api.PackKind(first / 16)
	if !k.toldBehind() {
		return p, false
	}
	switch p.Kind {
	case api.PackConnect:
		is = low == 0 && k.toldConnect(&p)
	case api.PackConnack:
		present := k.number(1)
		p.Present, p.Code = present == 1, k.number(1)
		is = low == 0 && present <= 1
	case api.PackPublish:
		p.Topic, p.Retain, p.Qos, p.Dup = k.text(), low%2 == 1, low/2%4, low >= 8
		if p.Qos > 0 {
			p.ID = int64(k.number(2))
		}
		p.Body, is = k.bytes(len(k.left)), true
	case api.PackPingreq, api.PackPingresp, api.PackDisconnect:
		is = low == 0
	case api.PackSubscribe:
		p.ID, is = int64(k.number(2)), low == 2
		for len(k.left) > 0 {
			p.Wants = append(p.Wants, api.Want{Filter: k.text(), Qos: k.number(1)})
		}
	case api.PackSuback:
		p.ID, is = int64(k.number(2)), low == 0
		for len(k.left) > 0 {
			p.Codes = append(p.Codes, k.number(1))
		}
	case api.PackUnsubscribe:
		p.ID, is = int64(k.number(2)), low == 2
		for len(k.left) > 0 {
			p.Filters = append(p.Filters, k.text())
		}
	case api.PackPubrel:
		p.ID, is = int64(k.number(2)), low == 2
	default:
		p.ID, is = int64(k.number(2)), low == 0
	}
	return p, is && len(k.left) == 0 && toldMay(p)
}

func (k *taker) toldConnect(p *api.Pack) bool {
	if k.text() != "MQTT" || k.number(1) != 4 {
		return false
	}
	flags := k.number(1)
	p.HasUser, p.HasPass, p.HasWill, p.Clean = flags/128 == 1, flags/64%2 == 1, flags/4%2 == 1, flags/2%2 == 1
	retain, qos := flags/32%2 == 1, flags/8%4
	if flags%2 == 1 || !p.HasWill && (retain || qos > 0) {
		return false
	}
	p.Keep, p.Client = int64(k.number(2)), k.text()
	if p.HasWill {
		p.Will = api.Will{Topic: k.text(), Body: k.text(), Qos: qos, Retain: retain}
	}
	if p.HasUser {
		p.User = k.text()
	}
	if p.HasPass {
		p.Pass = k.text()
	}
	return true
}

// alike tells whether two packets are the same in all, whatever stands in them.
func alike(a, b api.Pack) bool {
	return reflect.DeepEqual(bared(a), bared(b))
}

// bared tells a packet whose empty lists are nil.
func bared(p api.Pack) api.Pack {
	if len(p.Wants) == 0 {
		p.Wants = nil
	}
	if len(p.Codes) == 0 {
		p.Codes = nil
	}
	if len(p.Filters) == 0 {
		p.Filters = nil
	}
	return p
}

// toldFits tells whether the parts of a packet have room in its bytes, whether it may be or not.
func toldFits(p api.Pack) bool {
	fits := p.Kind >= 1 && p.Kind <= 14
	for _, one := range [][2]int64{{p.ID, 65535}, {p.Keep, 65535}, {int64(p.Qos), 3}, {int64(p.Will.Qos), 3}, {int64(p.Code), 255}} {
		fits = fits && one[0] >= 0 && one[0] <= one[1]
	}
	for _, w := range p.Wants {
		fits = fits && w.Qos >= 0 && w.Qos <= 255 && len(w.Filter) <= 65535
	}
	for _, n := range p.Codes {
		fits = fits && n >= 0 && n <= 255
	}
	for _, s := range slices.Concat(p.Filters, []string{p.Topic, p.Client, p.Will.Topic, p.Will.Body, p.User, p.Pass}) {
		fits = fits && len(s) <= 65535
	}
	return fits
}

// wantTold holds what is told of a packet, and of its bytes, against what the chapter tells of them. Bytes of one that may not be are none's, or another one's.
func wantTold(t *testing.T, p api.Pack) {
	t.Helper()
	if toldMay(p) {
		wantMay(t, p, toldRaw(p))
		return
	}
	wantMayNot(t, p)
	if toldFits(p) {
		wantParseTold(t, toldRaw(p))
	}
}

// wantParseTold holds what is told of bytes against what the chapter tells of them.
func wantParseTold(t *testing.T, b []byte) bool {
	t.Helper()
	want, is := toldParse(b)
	if is {
		wantParse(t, b, want)
	} else {
		wantNoParse(t, b)
	}
	return is
}

// dice tells numbers that are the same each time.
type dice uint32

func (d *dice) roll(n int) int {
	*d = *d*1664525 + 1013904223
	return int(uint64(bits.RotateLeft32(uint32(*d), 16)) % uint64(n))
}

func (d *dice) is() bool { return d.roll(2) == 0 }

// pick tells one of some things.
func pick[T any](d *dice, things ...T) T { return things[d.roll(len(things))] }

// text tells a text of so many bytes that may be said.
func (d *dice) text(n int) string {
	s := ""
	for len(s) < n {
		if one := pick(d, "a", "b", "/", "$", " ", "\x7f", "ä", "€", "🙂"); len(s)+len(one) <= n {
			s += one
		}
	}
	return s
}

func (d *dice) name() string { return d.text(1 + d.roll(pick(d, 3, 10, 200))) }

func (d *dice) filter() string {
	s := pick(d, "+", "#", "+/", "a/#", "/", "", "+/+/", "$x/")
	if !strings.HasSuffix(s, "/") && s != "" {
		return s
	}
	s += d.text(d.roll(pick(d, 3, 10, 190)))
	return pick(d, s+"x", s+"/+", s+"/#")
}

func (d *dice) body(most int) string {
	b := make([]byte, d.roll(pick(d, 1, 3, 40, most+1)))
	for i := range b {
		b[i] = byte(d.roll(256))
	}
	return string(b)
}

func (d *dice) id() int64 { return pick(d, 1, 65535, 1+int64(d.roll(65535))) }

func (d *dice) connect() api.Pack {
	p := api.Pack{Kind: api.PackConnect, Client: d.text(1 + d.roll(23)), Keep: d.id() - int64(d.roll(2)), Clean: d.is(), HasWill: d.is(), HasUser: d.is()}
	if p.Clean && d.is() {
		p.Client = ""
	}
	if p.HasWill {
		p.Will = api.Will{Topic: d.name(), Body: d.body(2000), Qos: d.roll(3), Retain: d.is()}
	}
	if p.HasUser {
		p.User, p.HasPass = d.text(d.roll(201)), d.is()
	}
	if p.HasPass {
		p.Pass = d.body(200)
	}
	return p
}

// pack tells a packet that may be.
func (d *dice) pack() api.Pack {
	p := api.Pack{Kind: api.PackKind(1 + d.roll(14))}
	switch p.Kind {
	case api.PackConnect:
		return d.connect()
	case api.PackConnack:
		p.Code = d.roll(6)
		p.Present = p.Code == 0 && d.is()
	case api.PackPublish:
		p.Topic, p.Body, p.Qos, p.Retain = d.name(), d.body(2000), d.roll(3), d.is()
		if p.Qos > 0 {
			p.ID, p.Dup = d.id(), d.is()
		}
	case api.PackPingreq, api.PackPingresp, api.PackDisconnect:
	default:
		p.ID = d.id()
	}
	for range 1 + d.roll(8) {
		switch p.Kind {
		case api.PackSubscribe:
			p.Wants = append(p.Wants, api.Want{Filter: d.filter(), Qos: d.roll(3)})
		case api.PackSuback:
			p.Codes = append(p.Codes, pick(d, 0, 1, 2, 128))
		case api.PackUnsubscribe:
			p.Filters = append(p.Filters, d.filter())
		}
	}
	return p
}

// spoil changes something of a packet, which then may not be, for the most part.
func (d *dice) spoil(p *api.Pack) {
	s := pick(d, "", "a", "+", "a/#", "#a", "\xff", "a\x00", strings.Repeat("x", 23), strings.Repeat("x", 24), strings.Repeat("x", 200), strings.Repeat("x", 201), strings.Repeat("x", 2001))
	n := pick(d, -1, 0, 1, 2, 3, 5, 6, 127, 128, 129, 65535, 65536)
	switch d.roll(23) {
	case 0:
		p.Kind = api.PackKind(d.roll(17) - 1)
	case 1:
		p.Dup = !p.Dup
	case 2:
		p.Retain = !p.Retain
	case 3:
		p.Qos = n
	case 4:
		p.Topic = s
	case 5:
		p.Body = s
	case 6:
		p.ID = int64(n)
	case 7:
		p.Client = s
	case 8:
		p.Clean = !p.Clean
	case 9:
		p.Keep = int64(n)
	case 10:
		p.HasWill = !p.HasWill
	case 11:
		p.Will.Topic = s
	case 12:
		p.Will.Body = s
	case 13:
		p.Will.Qos = n
	case 14:
		p.Will.Retain = !p.Will.Retain
	case 15:
		p.HasUser = !p.HasUser
	case 16:
		p.HasPass = !p.HasPass
	case 17:
		p.User = s
	case 18:
		p.Pass = s
	case 19:
		p.Present = !p.Present
	case 20:
		p.Code = n
	default:
		d.spoilList(p, s, n)
	}
}

func (d *dice) spoilList(p *api.Pack, s string, n int) {
	switch {
	case len(p.Wants) > 0 && d.is():
		p.Wants[d.roll(len(p.Wants))] = api.Want{Filter: s, Qos: d.roll(3)}
	case len(p.Wants) > 0:
		p.Wants[d.roll(len(p.Wants))].Qos = n
	case len(p.Codes) > 0:
		p.Codes[d.roll(len(p.Codes))] = n
	case len(p.Filters) > 0:
		p.Filters[d.roll(len(p.Filters))] = s
	}
	switch d.roll(10) {
	case 0:
		p.Wants = slices.Repeat([]api.Want{{Filter: "a"}}, d.roll(10))
	case 1:
		p.Codes = slices.Repeat([]int{1}, d.roll(10))
	case 2:
		p.Filters = slices.Repeat([]string{"a"}, d.roll(10))
	}
}

// P16.1, P16.3: packets, some of which may not be.
func TestPacketsAsTold(t *testing.T) {
	may, mayNot := map[api.PackKind]int{}, map[api.PackKind]int{}
	for seed := range 20000 {
		d := dice(seed)
		p := d.pack()
		for range d.roll(3) {
			d.spoil(&p)
		}
		wantTold(t, p)
		if toldMay(p) {
			may[p.Kind]++
		} else {
			mayNot[p.Kind]++
		}
		if t.Failed() {
			t.Fatalf("seed %d", seed)
		}
	}
	for k := api.PackConnect; k <= api.PackDisconnect; k++ {
		if may[k] < 400 || mayNot[k] < 200 {
			t.Errorf("of Kind %d just %d that may be, %d that may not", k, may[k], mayNot[k])
		}
	}
}

// P16.1, P16.3: bytes that are a packet's but for a few.
func TestBytesAsTold(t *testing.T) {
	whole, wrong := map[int]int{}, map[int]int{}
	for seed := range 40000 {
		d := dice(seed)
		b := toldRaw(d.pack())
		for range d.roll(3) {
			d.bend(&b)
		}
		if wantParseTold(t, b) {
			whole[int(b[0]/16)]++
		} else if len(b) > 0 {
			wrong[int(b[0]/16)]++
		}
		if t.Failed() {
			t.Fatalf("seed %d", seed)
		}
	}
	for k := 1; k <= 14; k++ {
		if whole[k] < 600 || wrong[k] < 600 {
			t.Errorf("of Kind %d just %d that are whole, %d that are wrong", k, whole[k], wrong[k])
		}
	}
}

// bend changes something of bytes: some of it behind a length that is brought in line, so that it is looked at.
func (d *dice) bend(b *[]byte) {
	at := d.roll(len(*b) + 1)
	head := min(3, len(*b))
	if d.roll(4) == 0 {
		at = d.roll(head + 1)
	}
	switch d.roll(4) {
	case 0:
		*b = slices.Delete(slices.Clone(*b), at, min(len(*b), at+1+d.roll(3)))
	case 1:
		*b = slices.Insert(slices.Clone(*b), at, byte(pick(d, 0, 1, 0x80, d.roll(256))))
	default:
		if at < len(*b) {
			(*b)[at] = byte(pick(d, d.roll(256), int((*b)[at])^1<<d.roll(8), int((*b)[at])+1, int((*b)[at])-1))
		}
	}
	if len(*b) > 3 && d.is() {
		size := 1
		for size < 4 && (*b)[size] >= 128 {
			size++
		}
		*b = toldFrame(int((*b)[0]), (*b)[min(1+size, len(*b)):])
	}
}

// Any bytes at all, some behind a length that is theirs.
func TestAnyBytesAsTold(t *testing.T) {
	whole := 0
	for seed := range 100000 {
		d := dice(seed)
		b := make([]byte, d.roll(12))
		for i := range b {
			b[i] = byte(pick(&d, 0, 0, 1, 2, d.roll(4), d.roll(256)))
		}
		if d.roll(4) > 0 {
			b = toldFrame(16*d.roll(16)+pick(&d, 0, 0, 2, d.roll(16)), b)
		}
		if wantParseTold(t, b) {
			whole++
		}
		if t.Failed() {
			t.Fatalf("seed %d", seed)
		}
	}
	if whole < 2000 {
		t.Errorf("just %d whole", whole)
	}
}

// P16.3: packets' bytes, in the order of bytes: one that began with another one's would stand behind it, with none between that did not begin so too.
func TestNoPacketBeginsAnotherAsTold(t *testing.T) {
	var all [][]byte
	for seed := range 20000 {
		d := dice(seed)
		b, e := packet.Raw(d.pack())
		if e != api.OK {
			t.Fatalf("seed %d: %v", seed, e)
		}
		all = append(all, b)
	}
	slices.SortFunc(all, bytes.Compare)
	all = slices.CompactFunc(all, bytes.Equal)
	for i, b := range all[1:] {
		if bytes.HasPrefix(b, all[i]) {
			t.Errorf("%x begins with %x", b, all[i])
		}
	}
}

// P16.2: packets, of which one is the other one but for what is changed.
func TestSameAsTold(t *testing.T) {
	same := 0
	for seed := range 20000 {
		d := dice(seed)
		a := d.pack()
		e := dice(seed)
		b := e.pack()
		for range d.roll(3) {
			d.spoil(&b)
		}
		want := alike(a, b)
		if packet.Same(a, b) != want || packet.Same(b, a) != want {
			t.Fatalf("seed %d: Same(%s, %s) is not %t", seed, brief(a), brief(b), want)
		}
		if want {
			same++
		}
	}
	if same < 5000 || same > 15000 {
		t.Errorf("%d are the same", same)
	}
}
