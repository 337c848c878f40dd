package topic_test

import (
	"regexp"
	"slices"
	"strings"
	"sync"
	"testing"
	"unicode/utf8"

	"pigeonry/api"
	"pigeonry/topic"
)

var (
	toldNames   = regexp.MustCompile(`\A[^+#]+\z`)
	toldFilters = regexp.MustCompile(`\A(#|(\+|[^+#/]*)(/(\+|[^+#/]*))*(/#)?)\z`)
)

// toldKind tells what a text is, as the chapter tells it.
func toldKind(s string) kind {
	switch {
	case s == "" || len(s) > api.MaxTopic || !utf8.ValidString(s) || strings.Contains(s, "\x00"):
		return nothing
	case toldNames.MatchString(s):
		return name
	case toldFilters.MatchString(s):
		return filter
	}
	return nothing
}

// toldMeeting tells what tells of names whether a filter meets them, as the chapter tells it: a + is all but slashes, a # is all, with the slash ahead of it.
func toldMeeting(f string) func(string) bool {
	s := regexp.QuoteMeta(f)
	s = strings.ReplaceAll(s, `\+`, `[^/]*`)
	if f == "#" {
		s = `.*`
	} else if strings.HasSuffix(s, "/#") {
		s = strings.TrimSuffix(s, "/#") + `(/.*)?`
	}
	met := regexp.MustCompile(`(?s)\A` + s + `\z`)
	open := f[0] == '+' || f[0] == '#'
	return func(n string) bool { return met.MatchString(n) && !(open && n[0] == '$') }
}

// texts tells all texts of at most so many bytes, of some pieces.
func texts(most int, pieces ...string) []string {
	all := []string{""}
	for at := 0; at < len(all); at++ {
		for _, piece := range pieces {
			if s := all[at] + piece; len(s) <= most {
				all = append(all, s)
			}
		}
	}
	return all
}

// only tells those of some texts that are of such a kind.
func only(all []string, such func(kind) bool) []string {
	return slices.DeleteFunc(all, func(s string) bool { return !such(toldKind(s)) })
}

func isName(k kind) bool   { return k == name }
func isFilter(k kind) bool { return k != nothing }

// someNames tells names; some have a letter that no filter of someFilters has.
var someNames = sync.OnceValue(func() []string { return only(texts(6, "a", "b", "/", "$"), isName) })

var someFilters = sync.OnceValue(func() []string { return only(texts(5, "a", "/", "$", "+", "#"), isFilter) })

// P13.1

func TestTextsAsTold(t *testing.T) {
	for _, s := range texts(6, "a", "/", "+", "#", "$") {
		wantKind(t, s, toldKind(s))
	}
	for _, s := range texts(5, "/", "+", "#", "\u00e4", "\xff", "\x00", "\xc3") {
		wantKind(t, s, toldKind(s))
	}
}

// Levels are the only texts without a slash that are the text again with slashes between them.
func TestLevelsAsTold(t *testing.T) {
	for _, s := range append(texts(6, "a", "/", "+", "#", "$"), texts(5, "/", "ab", "\u00e4", "\xff", "\x00", "\xc3")...) {
		l := topic.Levels(s)
		if len(l) == 0 || strings.Join(l, "/") != s || slices.ContainsFunc(l, func(level string) bool { return strings.Contains(level, "/") }) {
			t.Errorf("Levels(%q): %q", s, l)
		}
	}
}

func TestMeetsAsTold(t *testing.T) {
	names := only(texts(5, "a", "b", "/", "$"), isName)
	for _, f := range someFilters() {
		told := toldMeeting(f)
		for _, n := range names {
			wantMeets(t, f, n, told(n))
		}
	}
}

// P13.2

// many is which of some names a filter meets.
type many []uint64

func meetsOf(f string, names []string) many {
	told, all := toldMeeting(f), make(many, len(names)/64+1)
	for i, n := range names {
		if told(n) {
			all[i/64] |= 1 << (i % 64)
		}
	}
	return all
}

// within tells whether all of them are among others.
func (m many) within(o many) bool {
	for i, bits := range m {
		if bits&^o[i] != 0 {
			return false
		}
	}
	return true
}

// wantWithinAll holds Within of each two of some filters against which of some names they meet.
func wantWithinAll(t *testing.T, filters, names []string) {
	t.Helper()
	met := make([]many, len(filters))
	for i, f := range filters {
		met[i] = meetsOf(f, names)
	}
	for i, a := range filters {
		for k, b := range filters {
			wantWithin(t, a, b, met[i].within(met[k]))
		}
	}
}

func TestWithinAsTold(t *testing.T) {
	wantWithinAll(t, someFilters(), someNames())
}

// met tells each name that a filter of several levels meets, if only these letters are ever in its + and #.
func met(f string, letters ...string) []string {
	room := api.MaxTopic - len(strings.TrimSuffix(f, "/#")) + strings.Count(f, "+")
	one, rest := texts(room, letters...), texts(room, append(letters, "/")...)
	all := []string{""}
	for i, level := range strings.Split(f, "/") {
		var next []string
		for _, begin := range all {
			if i > 0 && level != "#" {
				begin += "/"
			}
			switch level {
			case "+":
				for _, s := range one {
					next = append(next, begin+s)
				}
			case "#":
				next = append(next, begin)
				for _, s := range rest {
					next = append(next, begin+"/"+s)
				}
			default:
				next = append(next, begin+level)
			}
		}
		all = next
	}
	told := toldMeeting(f)
	return slices.DeleteFunc(all, func(n string) bool { return toldKind(n) != name || !told(n) })
}

// longFilters tells filters in which a level of so many bytes stands, which begins so.
func longFilters(begin string, n int) (all []string) {
	pad := begin + strings.Repeat("x", n-len(begin))
	for _, shape := range []string{"*", "*/", "*//", "*/+", "*/#", "*/a", "+/*", "/*", "a/*", "$/*", "+/*/", "+/*/+", "+/*/#", "/*/+", "/*/#", "a/*/+", "*/+/", "*//+", "*//#", "*/+/#", "*/a/#", "*/+/+"} {
		all = append(all, strings.Replace(shape, "*", pad, 1))
	}
	return only(all, isFilter)
}

// Filters of which little more than what they spell out has room in a name: beside all names that they meet, of some letters.
func TestLongFiltersAsTold(t *testing.T) {
	for _, begin := range []string{"", "/", "$"} {
		for room := range 5 {
			long := longFilters(begin, api.MaxTopic-room)
			all := append(long, "#", "+", "+/#", "+/+", "+/+/#", "+/+/+", "/#", "/+", "/+/#")
			for _, a := range long {
				names := met(a, "a", "b", "$")
				for _, b := range all {
					told, each := toldMeeting(b), true
					for _, n := range names {
						is := told(n)
						wantMeets(t, b, n, is)
						each = each && is
					}
					wantWithin(t, a, b, each)
				}
			}
		}
	}
}

// dice tells numbers that are the same each time.
type dice uint32

func (d *dice) roll(n int) int {
	*d = *d*1664525 + 1013904223
	return int(*d>>8) % n
}

// pick tells one of some things.
func pick[T any](d *dice, things ...T) T { return things[d.roll(len(things))] }

// filter tells one of several levels.
func (d *dice) filter() string {
	var l []string
	for range 1 + d.roll(5) {
		l = append(l, pick(d, "", "a", "b", "ab", "$", "$a", "\u00e4", "+", "+"))
	}
	if d.roll(3) == 0 {
		l = append(l, "#")
	}
	return strings.Join(l, "/")
}

// near tells a filter that is like another one, mostly.
func (d *dice) near(f string) string {
	l := strings.Split(f, "/")
	for range d.roll(3) {
		at := d.roll(len(l))
		switch d.roll(5) {
		case 0:
			l = append(l[:at:at], "#")
		case 1:
			l = slices.Insert(l, at, "+")
		case 2:
			l = slices.Delete(l, at, at+1)
			l = append(l, pick(d, "#", "a"))
		default:
			l[at] = pick(d, "+", "+", "+", "a", "")
		}
	}
	return strings.Join(l, "/")
}

// some tells a name that a filter meets, mostly; z is in no filter.
func (d *dice) some(f string) string {
	l := strings.Split(f, "/")
	for at, level := range l {
		if level == "+" {
			l[at] = pick(d, "", "z", "a", "$", "ab")
		}
	}
	if l[len(l)-1] == "#" {
		l = append(l[:len(l)-1], pick(d, nil, nil, []string{""}, []string{"z"}, []string{"z", ""}, []string{"a", "a", "z", "z", "z"})...)
	}
	return strings.Join(l, "/")
}

// Filters and such as are like them, beside what Meets tells of names.
func TestWithinBesideMeets(t *testing.T) {
	inside := 0
	for seed := range 20000 {
		d := dice(seed)
		a := d.filter()
		b := d.near(a)
		if toldKind(a) == nothing || toldKind(b) == nothing {
			wantWithinError(t, a, b, api.ErrTopic)
			continue
		}
		first, second, each := toldMeeting(a), toldMeeting(b), true
		for range 100 {
			n := d.some(a)
			if toldKind(n) != name {
				wantMeetsError(t, b, n, api.ErrTopic)
				continue
			}
			wantMeets(t, a, n, first(n))
			wantMeets(t, b, n, second(n))
			each = each && (!first(n) || second(n))
		}
		if each {
			inside++
		}
		wantWithin(t, a, b, each)
		if t.Failed() {
			t.Fatalf("seed %d", seed)
		}
	}
	if inside < 2000 {
		t.Errorf("only %d are within", inside)
	}
}

// P13.3

func TestNamesAsFilters(t *testing.T) {
	names := append(only(texts(4, "a", "b", "/", "$"), isName), "ab/c", "\u00e4", "\u00e4/b", strings.Repeat("x", api.MaxTopic), strings.Repeat("x", api.MaxTopic-1), strings.Repeat("/", api.MaxTopic))
	for _, f := range names {
		for _, n := range names {
			wantMeets(t, f, n, f == n)
			wantWithin(t, f, n, f == n)
		}
	}
}

// What is within a filter that is a name is that name alone, and a name is within a filter just if it is met.
func TestWithinOfNames(t *testing.T) {
	names := only(texts(4, "a", "b", "/", "$"), isName)
	for _, f := range someFilters() {
		for _, n := range names {
			met, _ := topic.Meets(f, n)
			wantWithin(t, n, f, met)
			wantWithin(t, f, n, f == n)
		}
	}
}

func TestWithinItself(t *testing.T) {
	for _, f := range someFilters() {
		wantWithin(t, f, f, true)
	}
	for n := api.MaxTopic - 2; n <= api.MaxTopic; n++ {
		for f, k := range longTexts(n) {
			if k != nothing {
				wantWithin(t, f, f, true)
			}
		}
	}
}

func TestWithinOfThree(t *testing.T) {
	filters := only(texts(4, "a", "/", "$", "+", "#"), isFilter)
	is := make([][]bool, len(filters))
	for i, a := range filters {
		for _, b := range filters {
			in, e := topic.Within(a, b)
			if e != api.OK {
				t.Fatalf("Within(%q, %q): %v", a, b, e)
			}
			is[i] = append(is[i], in)
		}
	}
	for a := range filters {
		for b := range filters {
			if !is[a][b] {
				continue
			}
			for c := range filters {
				if is[b][c] && !is[a][c] {
					t.Fatalf("%q is within %q, and that within %q, but the first not within the last", filters[a], filters[b], filters[c])
				}
			}
		}
	}
}
