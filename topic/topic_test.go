package topic_test

import (
	"slices"
	"strings"
	"testing"
	"unsafe"

	"pigeonry/api"
	"pigeonry/topic"
)

// kind is what a text is; each name is a filter, too.
type kind int

const (
	nothing kind = iota
	filter
	name
)

// wantKind holds all that hangs on what a text is against that.
func wantKind(t *testing.T, s string, want kind) {
	t.Helper()
	if got := topic.Name(s); got != (want == name) {
		t.Errorf("Name(%.300q): %v", s, got)
	}
	if got := topic.Filter(s); got != (want != nothing) {
		t.Errorf("Filter(%.300q): %v", s, got)
	}
	if got := topic.Plain(s); got != (want == name) {
		t.Errorf("Plain(%.300q): %v", s, got)
	}
	asFilter, asName := api.ErrTopic, api.ErrTopic
	if want != nothing {
		asFilter = api.OK
	}
	if want == name {
		asName = api.OK
	}
	wantMeetsError(t, s, "a", asFilter)
	wantMeetsError(t, "#", s, asName)
	wantWithinError(t, s, "a", asFilter)
	wantWithinError(t, "#", s, asFilter)
}

// wantMeetsError holds the error against that which is told; beside one nothing else may be told.
func wantMeetsError(t *testing.T, f, n string, want api.Errno) {
	t.Helper()
	if is, e := topic.Meets(f, n); e != want || is && e != api.OK {
		t.Errorf("Meets(%.300q, %.300q): %v %v, want %v", f, n, is, e, want)
	}
}

func wantWithinError(t *testing.T, a, b string, want api.Errno) {
	t.Helper()
	if is, e := topic.Within(a, b); e != want || is && e != api.OK {
		t.Errorf("Within(%.300q, %.300q): %v %v, want %v", a, b, is, e, want)
	}
}

func wantMeets(t *testing.T, f, n string, want bool) {
	t.Helper()
	if got, e := topic.Meets(f, n); got != want || e != api.OK {
		t.Errorf("Meets(%.300q, %.300q): %v %v, want %v", f, n, got, e, want)
	}
}

func wantWithin(t *testing.T, a, b string, want bool) {
	t.Helper()
	if got, e := topic.Within(a, b); got != want || e != api.OK {
		t.Errorf("Within(%.300q, %.300q): %v %v, want %v", a, b, got, e, want)
	}
}

func TestExamples(t *testing.T) {
	wantMeets(t, "a/+/c", "a/b/c", true)
	wantMeets(t, "a/#", "a", true)
	wantMeets(t, "+", "a/b", false)
	wantMeets(t, "#", "$x/y", false)
	wantMeetsError(t, "a+", "a", api.ErrTopic)
	wantMeetsError(t, "a", "a/+", api.ErrTopic)
	if topic.Filter("a/#/b") || topic.Name("") {
		t.Errorf("Filter(a/#/b): %v, Name of nothing: %v", topic.Filter("a/#/b"), topic.Name(""))
	}
	wantWithin(t, "a/+", "a/#", true)
	wantWithin(t, "a/#", "a/+", false)
	wantWithin(t, "#", "+/#", true)
}

// P13.1: what is a name, what is a filter

func TestNames(t *testing.T) {
	for _, s := range []string{
		"a", "/", "//", "///", "a/b", "a/b/c", "/a", "a/", "/a/", "//a", "a//", "a//b", "a///b", "//a//b//", " ", " / ", "a b", "A/a", "a.b-c_d", "*", "a/*", "\\", "a\\b", "?", "a\nb", "\x01", "\x7f", "\uffff", "\u00e4/\u20ac/\U0001f600", "\U0010ffff",
		"$", "$x", "$x/y", "$/", "$/x", "$$", "/$", "a/$", "a/$x/b", "a$", "a$/b", "a/b$", "/$x",
	} {
		wantKind(t, s, name)
	}
}

func TestFilters(t *testing.T) {
	for _, s := range []string{
		"+", "+/a", "a/+", "a/+/b", "+/+", "+/+/+", "+/", "/+", "/+/", "//+", "+//+", "a/+/b/+", "+/a/+", "+/$x", "$x/+", "$/+", "$x/+/y", "\u00e4/+/\u20ac",
		"#", "a/#", "a/b/#", "/#", "//#", "a//#", "$x/#", "$/#", "\u00e4/#",
		"+/#", "a/+/#", "+/a/#", "+/+/#", "/+/#", "+//#", "$x/+/#", "+/$x/#",
	} {
		wantKind(t, s, filter)
	}
}

func TestNoFilters(t *testing.T) {
	for _, s := range []string{
		"",
		// + at the begin, in the midst, at the end of a level, and twice, in the first, a middle, the last one.
		"a+", "+a", "a+b", "++", "+++", "a+/b", "+a/b", "a+b/c", "++/a", "a/+b/c", "a/b+/c", "a/b+c/d", "a/++/b", "a/+b", "a/b+", "a/b+c", "a/++", "+/a+", "+/+a", "+ ", " +", "$+", "+$", "$+/a", "\u00e4+", "+\u00e4",
		// # ahead of the last level, also of one that is empty.
		"#/", "#/a", "#/+", "#/#", "a/#/", "a/#/b", "a/#/#", "/#/", "//#/", "#//", "+/#/", "+/#/+", "a/#/b/#", "a/#/+/b", "$x/#/y",
		// # within a level, and beside +.
		"a#", "#a", "a#b", "##", "###", "a#/b", "#a/b", "##/a", "a/b#", "a/#b", "a/b#c", "a/##", "a/#b/c", "$#", "#$", " #", "# ", "\u00e4#",
		"+#", "#+", "a/+#", "a/#+", "+#/a", "#+/a", "a+#", "a+/#", "+a/#", "a#/+", "a#/#", "++/#", "+/##", "+/+#",
	} {
		wantKind(t, s, nothing)
	}
}

// wrongTexts may not be said.
var wrongTexts = []string{"\x00", "\x80", "\xbf", "\xc0\x80", "\xc1\xbf", "\xe0\x80\x80", "\xed\xa0\x80", "\xed\xbf\xbf", "\xf0\x80\x80\x80", "\xf4\x90\x80\x80", "\xf5\x80\x80\x80", "\xc3", "\xe2\x82", "\xf0\x9f\x98", "\xfe", "\xff"}

func TestTextsThatMayNotBeSaid(t *testing.T) {
	for _, w := range wrongTexts {
		for _, s := range []string{w, w + "abc", "ab" + w + "cd", "abc" + w, w + "/a", "a/" + w, "a/" + w + "/b", "/" + w, w + "/", w + "/+", "+/" + w, "+/" + w + "/#", w + "/#", "$" + w, "\u00e4" + w, strings.Repeat("x", api.MaxTopic-len(w)) + w, w + strings.Repeat("x", api.MaxTopic-len(w))} {
			wantKind(t, s, nothing)
		}
	}
}

// longTexts tells texts of so many bytes, each with what it would be if it were not too long.
func longTexts(n int) map[string]kind {
	fill := func(ahead, one, behind string) string {
		return ahead + strings.Repeat(one, (n-len(ahead)-len(behind))/len(one)) + behind
	}
	all := map[string]kind{
		fill("", "x", ""): name, fill("", "/", ""): name, fill("$", "x", ""): name, fill("$", "/", ""): name, fill("x/", "x", "/"): name,
		fill("", "x", "/+"): filter, fill("+/", "x", ""): filter, fill("+/", "x", "/#"): filter, fill("", "x", "/#"): filter, fill("", "/", "+"): filter, fill("", "/", "#"): filter, fill("+", "/", "#"): filter, fill("", "x", "/+/#"): filter,
		fill("", "x", "+"): nothing, fill("+", "x", ""): nothing, fill("", "+", ""): nothing, fill("", "#", ""): nothing, fill("", "x", "#"): nothing, fill("", "x", "/#/"): nothing, fill("", "x", "\x00"): nothing, fill("\xff", "x", ""): nothing, fill("x", "x", "\xff"+"x"): nothing,
		strings.Repeat("x", n%3) + fill("", "\u20ac", ""): name, strings.Repeat("x", (n-2)%3) + fill("", "\u20ac", "/#"): filter,
		strings.Repeat("/", n%2) + fill("", "+/", ""): filter, strings.Repeat("/", (n+1)%2) + fill("", "+/", "#"): filter,
	}
	return all
}

func TestTextsAboutTheBound(t *testing.T) {
	for n := api.MaxTopic - 2; n <= api.MaxTopic+3; n++ {
		for s, want := range longTexts(n) {
			if len(s) > api.MaxTopic {
				want = nothing
			}
			wantKind(t, s, want)
		}
	}
	long := strings.Repeat("\u20ac", api.MaxTopic/3)
	wantKind(t, long, name)
	wantKind(t, long+"xx", name)
	wantKind(t, long+"\u20ac", nothing) // of fewer runes than bytes
	for _, n := range []int{256, 65535, 65536, 1 << 20} {
		for _, one := range []string{"x", "/", "+/", "\u00e4"} {
			wantKind(t, strings.Repeat(one, n), nothing)
		}
	}
}

func TestTextsOfOneByte(t *testing.T) {
	for b := range 256 {
		want := name
		switch {
		case b == 0 || b >= 0x80:
			want = nothing
		case b == '+' || b == '#':
			want = filter
		}
		wantKind(t, string([]byte{byte(b)}), want)
	}
}

// P13.1: Levels

func TestLevels(t *testing.T) {
	for _, c := range []struct {
		s    string
		want []string
	}{
		{"", []string{""}},
		{"a", []string{"a"}},
		{"/", []string{"", ""}},
		{"//", []string{"", "", ""}},
		{"///", []string{"", "", "", ""}},
		{"a/b", []string{"a", "b"}},
		{"/a", []string{"", "a"}},
		{"a/", []string{"a", ""}},
		{"a//b", []string{"a", "", "b"}},
		{"//ab/c//", []string{"", "", "ab", "c", "", ""}},
		{"$x/$", []string{"$x", "$"}},
		{"+", []string{"+"}},
		{"a/+/#", []string{"a", "+", "#"}},
		{"#/a+/##", []string{"#", "a+", "##"}},
		{"\u00e4/\u20ac", []string{"\u00e4", "\u20ac"}},
		{"\x00", []string{"\x00"}},
		{"\xff/\xc3/\xaf/\xe2\x82", []string{"\xff", "\xc3", "\xaf", "\xe2\x82"}},
		{"a\x00/\xff", []string{"a\x00", "\xff"}},
	} {
		if got := topic.Levels(c.s); !slices.Equal(got, c.want) {
			t.Errorf("Levels(%q): %q, want %q", c.s, got, c.want)
		}
	}
}

func TestLevelsOfLongTexts(t *testing.T) {
	for _, n := range []int{api.MaxTopic - 1, api.MaxTopic, api.MaxTopic + 1, 65535, 65536, 1 << 20} {
		if got := topic.Levels(strings.Repeat("x", n)); len(got) != 1 || len(got[0]) != n {
			t.Errorf("Levels of %d x: %d", n, len(got))
		}
		got := topic.Levels(strings.Repeat("/", n))
		if len(got) != n+1 || slices.ContainsFunc(got, func(level string) bool { return level != "" }) {
			t.Errorf("Levels of %d slashes: %d", n, len(got))
		}
		if got := topic.Levels(strings.Repeat("ab/", n)); len(got) != n+1 || got[0] != "ab" || got[n-1] != "ab" || got[n] != "" {
			t.Errorf("Levels of %d ab/: %d", n, len(got))
		}
	}
}

func TestLevelsAreNew(t *testing.T) {
	s := strings.Clone("a/b/c")
	a, b := topic.Levels(s), topic.Levels(s)
	for i, level := range a {
		at, from := uintptr(unsafe.Pointer(unsafe.StringData(level))), uintptr(unsafe.Pointer(unsafe.StringData(s)))
		if at >= from && at < from+uintptr(len(s)) || unsafe.StringData(level) == unsafe.StringData(b[i]) {
			t.Errorf("level %d is no new memory", i)
		}
	}
	clear(a)
	if want := []string{"a", "b", "c"}; !slices.Equal(b, want) || !slices.Equal(topic.Levels(s), want) {
		t.Errorf("Levels: %q, then %q", b, topic.Levels(s))
	}
}

// P13.1: Meets

func TestMeetsOfNames(t *testing.T) {
	all := []string{"a", "ab", "b", "A", "a/b", "a/bc", "a/b/c", "ab/b", "b/a", "/a", "a/", "a//", "a//b", "/", "//", "///", "/a/", "$", "$a", "$a/b", "a/$", "\u00e4", "a\u0308", " a", "a "}
	for _, f := range all {
		for _, n := range all {
			wantMeets(t, f, n, f == n)
		}
	}
}

func TestMeetsOfPlus(t *testing.T) {
	for _, c := range []struct {
		filter    string
		met, left []string
	}{
		{"+", []string{"a", "ab", " ", "\u00e4", "a$"}, []string{"/", "//", "a/", "/a", "a/b", "a/b/c", "$", "$a"}},
		{"+/+", []string{"/", "a/", "/a", "a/b", "a/$b", "/$", "/$b"}, []string{"a", "//", "a/b/", "a/b/c", "/a/", "$/", "$/a", "$a/b", "$a"}},
		{"a/+", []string{"a/", "a/b", "a/bc", "a/a", "a/$", "a/$b"}, []string{"a", "ab", "/", "/b", "b/b", "ab/c", "a/b/", "a//", "a/b/c", "A/b", "/a", "$a/b", "$/a"}},
		{"+/a", []string{"/a", "a/a", "b/a", "bc/a"}, []string{"a", "a/", "a/b", "a/ab", "b/a/", "/b/a", "//a", "$/a", "$b/a"}},
		{"a/+/c", []string{"a//c", "a/b/c", "a/bb/c", "a/$/c"}, []string{"a", "a/c", "a/b", "a/b/", "a/b/cc", "a/b/c/", "a/b/c/d", "aa/b/c", "/b/c", "a/b/b/c", "a///c"}},
		{"/+", []string{"/", "/a", "/$", "/$a"}, []string{"a", "a/", "a/b", "//", "/a/", "/a/b", "$", "$/", "$/a"}},
		{"+/", []string{"/", "a/", "ab/"}, []string{"a", "//", "/a", "a/b", "a//", "$/", "$a/"}},
		{"/+/", []string{"//", "/a/", "/$/"}, []string{"/", "/a", "a/b/", "///", "/a/b", "$//"}},
		{"+//+", []string{"//", "a//", "//a", "a//b"}, []string{"/", "a/b/c", "a/b", "a//b/", "$//"}},
		{"$/+", []string{"$/", "$/a", "$/$"}, []string{"$", "$a", "$a/b", "/a", "a/$", "$/a/b"}},
		{"$x/+/y", []string{"$x//y", "$x/a/y", "$x/$/y"}, []string{"$x", "$x/y", "x/a/y", "$/a/y", "$x/a/y/", "$xx/a/y"}},
		{"+/$x", []string{"/$x", "a/$x"}, []string{"$x", "$/$x", "$x/$x", "a/x", "a/$"}},
		{"+/+/+", []string{"//", "a//", "/a/", "//a", "a/b/c"}, []string{"a", "a/b", "/", "///", "a/b/c/d", "$//", "$a/b/c"}},
	} {
		for _, n := range c.met {
			wantMeets(t, c.filter, n, true)
		}
		for _, n := range c.left {
			wantMeets(t, c.filter, n, false)
		}
	}
}

func TestMeetsOfHash(t *testing.T) {
	for _, c := range []struct {
		filter    string
		met, left []string
	}{
		{"#", []string{"a", "/", "//", "a/", "/a", "a/b", "a/b/c", "/$", "/$x/y", "a/$", " "}, []string{"$", "$x", "$x/y", "$/", "$$"}},
		{"a/#", []string{"a", "a/", "a//", "a/b", "a/b/c", "a/b/", "a/$"}, []string{"ab", "ab/c", "b", "b/a", "/a", "/", "/a/b", "A", "A/b", "$a", "$a/b", "$/a"}},
		{"a/b/#", []string{"a/b", "a/b/", "a/b/c", "a/b/c/d"}, []string{"a", "a/", "a/bc", "a/bc/d", "a//b", "b/b", "/a/b"}},
		{"/#", []string{"/", "//", "/a", "/a/b", "/$", "/$a"}, []string{"a", "a/", "a/b", "$", "$/", "$/a"}},
		{"//#", []string{"/", "//", "///", "//a", "//a/b"}, []string{"/a", "a", "a//", "/a/", "/a/b", "$/", "$//"}},
		{"a//#", []string{"a/", "a//", "a//b"}, []string{"a", "a/b", "a/b/", "/", "//"}},
		{"+/#", []string{"a", "/", "//", "a/", "/a", "a/b/c", "/$x"}, []string{"$", "$x", "$/", "$x/y"}},
		{"+/+/#", []string{"/", "//", "a/", "/a", "a/b", "a/b/c"}, []string{"a", "ab", "$", "$/", "$x/y", "$x/y/z"}},
		{"a/+/#", []string{"a/", "a//", "a/b", "a/b/", "a/b/c", "a/$"}, []string{"a", "ab", "ab/c", "/a", "b/b", "$a/b"}},
		{"+/a/#", []string{"/a", "b/a", "b/a/", "b/a/c/d", "/a/"}, []string{"a", "/", "b/", "b/ab", "b/c/a", "$/a", "$b/a", "$b/a/c"}},
		{"/+/#", []string{"/", "//", "/a", "/a/b", "/$"}, []string{"a", "a/", "a/b", "$", "$/"}},
		{"$x/#", []string{"$x", "$x/", "$x/y", "$x/y/z", "$x/$"}, []string{"$", "$xx", "$xx/y", "x", "x/y", "/$x", "$y"}},
		{"$/#", []string{"$", "$/", "$/x", "$//"}, []string{"$x", "$x/y", "$$", "a", "/", "/$"}},
		{"$x/+/#", []string{"$x/", "$x/y", "$x/y/z"}, []string{"$x", "$", "$xy/z", "x/y"}},
	} {
		for _, n := range c.met {
			wantMeets(t, c.filter, n, true)
		}
		for _, n := range c.left {
			wantMeets(t, c.filter, n, false)
		}
	}
}

// Names and filters of as many bytes, and as many levels, as there may be.
func TestMeetsAtTheBound(t *testing.T) {
	x, slashes := strings.Repeat("x", api.MaxTopic), strings.Repeat("/", api.MaxTopic)
	wantMeets(t, x, x, true)
	wantMeets(t, x, x[1:], false)
	wantMeets(t, x[1:], x, false)
	wantMeets(t, "+", x, true)
	wantMeets(t, "#", x, true)
	wantMeets(t, "#", "$"+x[1:], false)
	wantMeets(t, "+", "$"+x[1:], false)
	wantMeets(t, x[2:]+"/#", x[2:], true)
	wantMeets(t, x[2:]+"/#", x[1:], false)
	wantMeets(t, x[2:]+"/#", x[2:]+"//", true)
	wantMeets(t, x[2:]+"/#", x[2:]+"/y", true)
	wantMeets(t, x[2:]+"/+", x[2:]+"/", true)
	wantMeets(t, x[2:]+"/+", x[2:]+"//", false)
	wantMeets(t, "+/"+x[2:], "/"+x[2:], true)
	wantMeets(t, "+/"+x[2:], "$/"+x[2:], false)
	wantMeets(t, slashes, slashes, true)
	wantMeets(t, slashes, slashes[1:], false)
	wantMeets(t, slashes[1:], slashes, false)
	wantMeets(t, slashes[1:]+"#", slashes, true)
	wantMeets(t, slashes[1:]+"#", slashes[1:], true)
	wantMeets(t, slashes[1:]+"#", slashes[2:], true)
	wantMeets(t, slashes[1:]+"#", slashes[3:], false)
	wantMeets(t, slashes[1:]+"+", slashes[1:], true)
	wantMeets(t, slashes[1:]+"+", slashes, false)
	wantMeets(t, slashes[1:]+"+", slashes[2:], false)
	wantMeets(t, "#", slashes, true)
	many := strings.Repeat("+/", api.MaxTopic/2)
	wantMeets(t, many, slashes[:api.MaxTopic/2], true)
	wantMeets(t, many, strings.Repeat("x/", api.MaxTopic/2), true)
	wantMeets(t, many, slashes[:api.MaxTopic/2+1], false)
	wantMeets(t, many, slashes[:api.MaxTopic/2-1], false)
	wantMeets(t, many[:api.MaxTopic-2]+"#", slashes, true)
	wantMeets(t, many[:api.MaxTopic-2]+"#", slashes[:api.MaxTopic/2-2], true)
	wantMeets(t, many[:api.MaxTopic-2]+"#", slashes[:api.MaxTopic/2-3], false)
}

// P13.1, P13.2: what is refused

// noFilters are no names either.
var noFilters = []string{"", "a+", "+a", "#/", "a/#/b", "a#", "++", "##", "\xff", "a\x00", strings.Repeat("x", api.MaxTopic+1), strings.Repeat("/", api.MaxTopic) + "#"}

func TestMeetsOfWhatIsNone(t *testing.T) {
	noNames := append([]string{"+", "#", "a/+", "a/#", "+/a", "+/#", "a/+/b"}, noFilters...)
	for _, f := range noFilters {
		for _, n := range append([]string{"a", "/", "$a", "a/b"}, noNames...) {
			wantMeetsError(t, f, n, api.ErrTopic)
		}
	}
	for _, n := range noNames {
		for _, f := range []string{"a", "+", "#", "a/+", "a/#", n} {
			wantMeetsError(t, f, n, api.ErrTopic)
		}
	}
}

func TestWithinOfWhatIsNone(t *testing.T) {
	for _, one := range noFilters {
		for _, f := range []string{"a", "/", "+", "#", "a/+", "a/#"} {
			wantWithinError(t, one, f, api.ErrTopic)
			wantWithinError(t, f, one, api.ErrTopic)
		}
		for _, other := range noFilters {
			wantWithinError(t, one, other, api.ErrTopic)
		}
	}
}

// P13.2: Within

func TestWithin(t *testing.T) {
	for _, c := range []struct {
		a    string
		b, o []string // within which it is, and within which it is not
	}{
		{"a", []string{"a", "+", "#", "a/#", "+/#"}, []string{"b", "ab", "/", "/a", "a/", "a/+", "+/a", "+/+", "a/+/#", "+/+/#", "/#", "$a", "b/#"}},
		{"/", []string{"/", "+/", "/+", "+/+", "#", "/#", "+/#", "//#", "/+/#", "+/+/#", "+//#"}, []string{"a", "//", "+", "+/+/+", "/a", "//+", "a/#", "//+/#", "///#"}},
		{"a/b", []string{"a/b", "a/+", "+/b", "+/+", "#", "a/#", "+/#", "a/b/#", "a/+/#", "+/b/#", "+/+/#"}, []string{"a", "a/bc", "b/a", "+", "a/b/c", "a/b/+", "a/b/+/#", "a/a/#", "b/#", "b/+", "+/a", "+/+/+", "/#"}},
		{"+", []string{"+", "#", "+/#"}, []string{"a", "/", "+/+", "a/#", "/#", "/+", "+/+/#", "$", "$/#"}},
		{"#", []string{"#", "+/#"}, []string{"+", "a", "a/#", "/#", "+/+", "+/+/#", "/+/#", "$/#", "+/a/#"}},
		{"+/#", []string{"+/#", "#"}, []string{"+", "+/+", "+/+/#", "a/#", "/#"}},
		{"/#", []string{"/#", "#", "+/#", "/+/#", "+/+/#"}, []string{"/", "/+", "//#", "+//#", "/+/+/#", "+/+/+/#", "+/+", "+", "a/#", "/a/#", "+/a/#"}},
		{"/+/#", []string{"/#", "#", "+/#", "/+/#", "+/+/#"}, []string{"/", "/+", "//#", "/+/+/#", "+/+", "+"}},
		{"//#", []string{"//#", "/+/#", "+/+/#", "+//#", "/#", "+/#", "#"}, []string{"//", "//+", "//+/#", "+/+/+/#", "///#", "/a/#"}},
		{"a/+", []string{"a/+", "+/+", "a/#", "#", "+/#", "a/+/#", "+/+/#"}, []string{"a", "a/b", "a/", "+/a", "+", "a/+/+", "b/#", "a/b/#", "a//#"}},
		{"a/#", []string{"a/#", "+/#", "#"}, []string{"a", "a/+", "a/+/#", "+", "+/+", "+/+/#", "b/#", "a/a/#"}},
		{"a/+/#", []string{"a/+/#", "a/#", "+/#", "#", "+/+/#"}, []string{"a/+", "a/b/#", "a/+/+/#", "+/+", "a/+/+"}},
		{"+/a", []string{"+/a", "+/+", "+/#", "#", "+/a/#", "+/+/#"}, []string{"a/+", "/a", "/+", "+/b", "+", "a/#", "/#", "+/a/+"}},
		{"+/+", []string{"+/+", "+/+/#", "+/#", "#"}, []string{"+", "/+", "+/", "+/a", "a/+", "+/+/+", "+/+/+/#"}},
		{"a/+/c", []string{"a/+/c", "a/+/+", "+/+/c", "+/+/+", "a/+/#", "a/#", "a/+/c/#"}, []string{"a/b/c", "a//c", "a/+/d", "+/b/+", "a/c", "a/b/#", "a/+/+/+"}},
		{"a/b/+", []string{"a/b/+", "a/+/+", "+/b/+", "a/b/#", "a/#"}, []string{"a/+/c", "a/b/c", "+/+/c", "b/#", "a/c/#"}},
		{"$", []string{"$", "$/#"}, []string{"+", "#", "+/#", "$a", "$/+", "$/+/#", "a"}},
		{"$x/y", []string{"$x/y", "$x/+", "$x/#", "$x/y/#", "$x/+/#"}, []string{"+/y", "#", "+/#", "+/+", "$/#", "$x", "x/#", "+/y/#", "$x/y/+"}},
		{"$x/#", []string{"$x/#"}, []string{"#", "+/#", "$x", "$x/+", "$/#", "$x/+/#", "+"}},
		{"$x/+", []string{"$x/+", "$x/#", "$x/+/#"}, []string{"#", "+/#", "+/+", "$x/a", "$/+"}},
		{"$/+", []string{"$/+", "$/#"}, []string{"#", "+/+", "+/#", "$x/+", "/+"}},
		{"/$x", []string{"/$x", "/+", "+/$x", "+/+", "#", "/#", "+/#"}, []string{"$x", "/x", "+", "$x/#", "/$"}},
		{"a/$x/#", []string{"a/$x/#", "a/+/#", "+/$x/#", "a/#", "#"}, []string{"a/x/#", "a/$x", "$x/#"}},
		{"+/$x", []string{"+/$x", "+/+", "#"}, []string{"$x", "/$x", "+/x", "$x/#"}},
	} {
		for _, b := range c.b {
			wantWithin(t, c.a, b, true)
		}
		for _, b := range c.o {
			wantWithin(t, c.a, b, false)
		}
	}
}

// Filters of as many bytes as there may be: what + and # of them meet has little room, but enough for another byte, for none, and for a level more.
func TestWithinAtTheBound(t *testing.T) {
	x, slashes := strings.Repeat("x", api.MaxTopic), strings.Repeat("/", api.MaxTopic)
	wantWithin(t, x, x, true)
	wantWithin(t, x, "+", true)
	wantWithin(t, x, "#", true)
	wantWithin(t, x[2:], x[2:]+"/#", true)
	wantWithin(t, x[2:]+"/#", x[2:], false)
	wantWithin(t, x[2:]+"/#", x[2:]+"/+", false)
	wantWithin(t, x[2:]+"/#", x[2:]+"/#", true)
	wantWithin(t, x[2:]+"/#", "+/#", true)
	wantWithin(t, x[2:]+"/#", "+/+", false)
	wantWithin(t, x[2:]+"/#", "+/+/#", false)
	wantWithin(t, x[2:]+"/+", x[2:]+"/#", true)
	wantWithin(t, x[2:]+"/+", x[2:]+"/", false)
	wantWithin(t, x[2:]+"/+", x[2:]+"/x", false)
	wantWithin(t, x[2:]+"/+", "+/+", true)
	wantWithin(t, "+/"+x[2:], "/"+x[2:], false)
	wantWithin(t, "+/"+x[2:], "x/"+x[2:], false)
	wantWithin(t, "+/"+x[2:], "#", true)
	wantWithin(t, "$"+x[3:]+"/#", "#", false)
	wantWithin(t, "$"+x[3:]+"/+", "+/+", false)
	wantWithin(t, slashes, slashes[1:]+"#", true)
	wantWithin(t, slashes, slashes[1:]+"+", false)
	wantWithin(t, slashes[1:], slashes[1:]+"+", true)
	wantWithin(t, slashes[1:]+"#", slashes, false)
	wantWithin(t, slashes[1:]+"#", slashes[1:], false)
	wantWithin(t, slashes[1:]+"#", slashes[1:]+"+", false)
	wantWithin(t, slashes[1:]+"#", slashes[2:]+"#", true)
	wantWithin(t, slashes[2:]+"#", slashes[1:]+"#", false)
	wantWithin(t, slashes[1:]+"#", "/+/#", true)
	wantWithin(t, slashes[1:]+"+", slashes[1:], false)
	wantWithin(t, "/#", slashes[1:]+"#", false)
	wantWithin(t, "#", slashes[1:]+"#", false)
	many := strings.Repeat("+/", api.MaxTopic/2)
	wantWithin(t, slashes[:api.MaxTopic/2], many, true)
	wantWithin(t, many, many, true)
	wantWithin(t, many, many[:api.MaxTopic-2]+"#", true)
	wantWithin(t, many[:api.MaxTopic-2]+"#", many, false)
	wantWithin(t, many[:api.MaxTopic-2]+"#", many[:api.MaxTopic-4]+"#", true)
	wantWithin(t, many[:api.MaxTopic-4]+"#", many[:api.MaxTopic-2]+"#", false)
	wantWithin(t, many, "/"+many[2:], false)
	wantWithin(t, many, many[:api.MaxTopic-1], false)
	for at := 0; at < len(many); at += 2 {
		wantWithin(t, many, many[:at]+"/"+many[at+2:], false)
		wantWithin(t, many, many[:at]+"x/"+many[at+2:], false)
		wantWithin(t, many[:at]+"x/"+many[at+2:], many, true)
	}
}
