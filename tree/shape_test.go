package tree_test

import (
	"fmt"
	"slices"
	"strings"
	"testing"

	"pigeonry/api"
	"pigeonry/chain"
	"pigeonry/pager"
	"pigeonry/slots"
	"pigeonry/tree"
)

// in is a leaf's cell, whose value is so many bytes: of a key of one byte it takes 6 more than that.
func in(key string, size int) api.Cell { return api.Cell{Key: key, Text: strings.Repeat("x", size)} }

// to is a branch's cell: it takes 7 bytes more than its Key.
func to(key string, number int64) api.Cell { return api.Cell{Key: key, Page: number} }

func laid(t *testing.T, p *pager.Pager, k api.PageKind, cells ...api.Cell) int64 {
	t.Helper()
	b, e := slots.Raw(k, cells)
	wantErr(t, "Raw", e, api.OK)
	number, e := p.Write(k, 0, b)
	wantErr(t, "the pager's Write", e, api.OK)
	return number
}

// leaf lays a leaf.
func leaf(t *testing.T, p *pager.Pager, cells ...api.Cell) int64 {
	t.Helper()
	return laid(t, p, api.PageLeaf, cells...)
}

// leaves lays leaves of a cell each, of these keys; it tells the cells that lead to them.
func leaves(t *testing.T, p *pager.Pager, keys ...string) (cells []api.Cell) {
	t.Helper()
	for _, key := range keys {
		cells = append(cells, to(key, leaf(t, p, in(key, 1))))
	}
	return cells
}

// branch lays a branch; its first cell's Key becomes none.
func branch(t *testing.T, p *pager.Pager, cells ...api.Cell) int64 {
	t.Helper()
	cells = slices.Clone(cells)
	cells[0].Key = ""
	return laid(t, p, api.PageBranch, cells...)
}

// wantSound asks whether a tree is one, and whether all that is new is its own.
func wantSound(t *testing.T, p *pager.Pager, root int64, depth int) {
	t.Helper()
	if got, e := tree.Check(p, root); got != depth || e != api.OK {
		t.Errorf("Check: %d %v, want %d", got, e, depth)
	}
	if got, e := tree.Pages(p, root); !slices.Equal(got, p.Space().New()) || e != api.OK {
		t.Errorf("Pages: %v %v, of those that are new %v", got, e, p.Space().New())
	}
}

// Leaves that are put into

func TestPutIntoALeaf(t *testing.T) {
	full := []api.Cell{in("a", 60), in("c", 60), in("e", 60), in("g", 26)} // 232 bytes
	for _, c := range []struct {
		what  string
		cells []api.Cell
		key   string
		size  int
		want  string
		depth int
	}{
		{"it just fits, as the last one", full[:3], "g", 26, "3[a c e g]", 1},
		{"it is one byte too many, as the last one", full[:3], "g", 27, "2(3[a c] e:4[e g])", 2},
		{"it just fits, as the first one", full[:3], "A", 26, "3[A a c e]", 1},
		{"it is one byte too many, as the first one", full[:3], "A", 27, "2(3[A a] c:4[c e])", 2},
		{"it just fits, between", full[:3], "d", 26, "3[a c d e]", 1},
		{"it is one byte too many, between", full[:3], "d", 27, "2(3[a c] d:4[d e])", 2},
		{"the longest one into a full one, as the last one", full, long("z", 48), 60, "2(3[a c e] g:4[g z/48])", 2},
		{"the longest one into a full one, as the first one", full, long("A", 48), 60, "2(3[A/48 a] c:4[c e g])", 2},
		{"the longest one into a full one, between", full, long("d", 48), 60, "2(3[a c] d/48:4[d/48 e g])", 2},
		{"in place of one, just as long", full, "g", 26, "3[a c e g]", 1},
		{"in place of one, and it is one byte too many", full, "g", 27, "2(3[a c] e:4[e g])", 2},
		{"in place of the first one, shorter", full, "a", 0, "3[a c e g]", 1},
		{"in place of one, and thin now", full[2:], "e", 0, "3[e g]", 1},
		{"in place of the only one", full[:1], "a", 0, "3[a]", 1},
		{"of no bytes", full[:1], "b", 0, "3[a b]", 1},
	} {
		p, _ := fresh(t, 20)
		root := put(t, p, leaf(t, p, c.cells...), c.key, strings.Repeat("x", c.size))
		if got := drawn(p, root); got != c.want {
			t.Errorf("%s:\n%s, want\n%s", c.what, got, c.want)
		}
		wantSound(t, p, root, c.depth)
		wantValue(t, p, root, c.key, strings.Repeat("x", c.size))
	}
}

func TestPutIntoALeafThatLasts(t *testing.T) {
	p, _ := fresh(t, 20)
	root := leaf(t, p, in("a", 60), in("b", 60), in("c", 60))
	wantCommit(t, p, root)
	root = put(t, p, root, "d", text(27))
	wantDrawn(t, p, root, "5(3[a b] c:4[c d])") // 2 is held, so the branch does not take it
	wantIs(t, p, "hnnn")
	root = put(t, p, root, "e", text(1))
	wantDrawn(t, p, root, "4(3[a b] c:6[c d e])")
	wantIs(t, p, "hnnfn")
}

// Branches that are put into

// wide lays a branch of so many bytes, 224 at least, whose first leaf is halved by a key d of 60 bytes at c, which takes 8.
func wide(t *testing.T, p *pager.Pager, size int) int64 {
	t.Helper()
	first := to("", leaf(t, p, in("a", 60), in("b", 60), in("c", 60)))
	others := leaves(t, p, long("f", 48), long("g", 48), long("h", 48), long("i", 18), long("j", 18+size-224))
	return branch(t, p, append([]api.Cell{first}, others...)...)
}

func TestPutIntoABranch(t *testing.T) {
	p, _ := fresh(t, 40)
	root := put(t, p, wide(t, p, 224), "d", text(60)) // 232 then
	wantDrawn(t, p, root, "2(9[a b] c:10[c d] f/48:3[f/48] g/48:4[g/48] h/48:5[h/48] i/18:6[i/18] j/18:7[j/18])")
	wantIs(t, p, "nnnnnnfnn")
	wantSound(t, p, root, 2)
	p, _ = fresh(t, 40)
	root = put(t, p, wide(t, p, 225), "d", text(60)) // 233 then
	wantDrawn(t, p, root, "8(2(9[a b] c:10[c d] f/48:3[f/48] g/48:4[g/48]) h/48:11(5[h/48] i/18:6[i/18] j/19:7[j/19]))")
	wantSound(t, p, root, 3)
	for _, key := range []string{"a", "b", "c", "d", long("f", 48), long("g", 48), long("h", 48), long("i", 18), long("j", 19)} {
		if _, is, e := tree.Get(p, root, key); !is || e != api.OK {
			t.Errorf("Get(%q): %v %v", key, is, e)
		}
	}
	for _, key := range []string{"A", "b.", "e", "g", "h", long("h", 47), "hh", "z"} {
		wantNone(t, p, root, key)
	}
}

func TestPutIntoABranchThatLasts(t *testing.T) {
	p, _ := fresh(t, 40)
	root := wide(t, p, 225)
	wantCommit(t, p, root)
	root = put(t, p, root, "d", text(60))
	wantDrawn(t, p, root, "13(11(9[a b] c:10[c d] f/48:3[f/48] g/48:4[g/48]) h/48:12(5[h/48] i/18:6[i/18] j/19:7[j/19]))")
	wantIs(t, p, "hkkkkkhnnnnn")
}

// A branch below the root is halved: the root has its Key, and keeps the one by which it stood.
func TestPutIntoABranchBelow(t *testing.T) {
	p, _ := fresh(t, 40)
	low := leaves(t, p, "A", "B")
	wideOne := wide(t, p, 225)
	high := leaves(t, p, "y", "z")
	root := branch(t, p, to("", branch(t, p, low...)), to("a", wideOne), to("y", branch(t, p, high...)))
	wantDrawn(t, p, root, "15(13(2[A] B:3[B]) a:10(4[a b c] f/48:5[f/48] g/48:6[g/48] h/48:7[h/48] i/18:8[i/18] j/19:9[j/19]) y:14(11[y] z:12[z]))")
	root = put(t, p, root, "d", text(60))
	wantDrawn(t, p, root, "10(13(2[A] B:3[B]) a:4(16[a b] c:17[c d] f/48:5[f/48] g/48:6[g/48]) h/48:18(7[h/48] i/18:8[i/18] j/19:9[j/19]) y:14(11[y] z:12[z]))")
	wantSound(t, p, root, 3)
}

// A page that becomes thin by Put stays.
func TestPutPutsNothingTogether(t *testing.T) {
	p, _ := fresh(t, 20)
	root := branch(t, p, to("", leaf(t, p, in("a", 60), in("b", 60))), to("m", leaf(t, p, in("m", 60), in("n", 60))))
	root = put(t, p, root, "a", "")
	root = put(t, p, root, "b", "")
	wantDrawn(t, p, root, "5(4[a b] m:3[m n])")
	root = put(t, p, root, "m", "")
	root = put(t, p, root, "n", "")
	wantDrawn(t, p, root, "2(4[a b] m:5[m n])")
	wantSound(t, p, root, 2)
}

// Leaves that are dropped from

// three lays a branch of three leaves: 2, m: 3, t: 4, at 5.
func three(t *testing.T, p *pager.Pager, a, m, b []api.Cell) int64 {
	t.Helper()
	return branch(t, p, to("", leaf(t, p, a...)), to("m", leaf(t, p, m...)), to("t", leaf(t, p, b...)))
}

func TestDropFromALeaf(t *testing.T) {
	a, m, z := []api.Cell{in("a", 60), in("b", 60)}, []api.Cell{in("m", 60), in("n", 60)}, []api.Cell{in("t", 60), in("u", 60)}
	full := []api.Cell{in("m", 60), in("n", 60), in("o", 60), in("p", 26)} // 232 bytes
	for _, c := range []struct {
		what    string
		a, m, b []api.Cell
		key     string
		want    string
	}{
		{"76 bytes are not thin, as the first one", append(a[:1:1], in("b", 2), in("c", 9)), m, z, "c", "2(6[a b] m:3[m n] t:4[t u])"},
		{"75 bytes are, as the first one", append(a[:1:1], in("b", 1), in("c", 9)), m, z, "c", "2(6[a b m n] t:4[t u])"},
		{"76 bytes are not thin, between", a, append(m[:1:1], in("n", 2), in("o", 9)), z, "o", "3(2[a b] m:6[m n] t:4[t u])"},
		{"75 bytes are, between", a, append(m[:1:1], in("n", 1), in("o", 9)), z, "o", "3(2[a b] m:6[m n t u])"},
		{"76 bytes are not thin, as the last one", a, m, append(z[:1:1], in("u", 2), in("v", 9)), "v", "4(2[a b] m:3[m n] t:6[t u])"},
		{"75 bytes are, as the last one", a, m, append(z[:1:1], in("u", 1), in("v", 9)), "v", "3(2[a b] m:6[m n t u])"},
		{"the first key goes, and its leaf stands by it still", a, m, []api.Cell{in("t", 1), in("u", 60), in("v", 60)}, "t", "4(2[a b] m:3[m n] t:6[u v])"},
		{"both just fit", []api.Cell{in("a", 60), in("b", 1), in("c", 9)}, []api.Cell{in("m", 60), in("n", 60), in("o", 19)}, z, "c", "2(6[a b m n o] t:4[t u])"},
		{"both are one byte too many", []api.Cell{in("a", 60), in("b", 1), in("c", 9)}, []api.Cell{in("m", 60), in("n", 60), in("o", 20)}, z, "c", "2(6[a b m] n:7[n o] t:4[t u])"},
		{"halved anew, between", a, []api.Cell{in("m", 1), in("n", 1)}, []api.Cell{in("t", 60), in("u", 60), in("v", 60), in("w", 20)}, "m", "3(2[a b] m:6[n t u] v:7[v w])"},
		{"halved anew, the last one and the one ahead", a, full, []api.Cell{in("t", 1), in("u", 9)}, "u", "3(2[a b] m:6[m n] o:7[o p t])"},
		{"the last one and the one ahead just fit", a, []api.Cell{in("m", 60), in("n", 60), in("o", 60)}, []api.Cell{in("t", 26), in("u", 1)}, "u", "3(2[a b] m:6[m n o t])"},
		{"none is left of the first one", a[:1], m, z, "a", "2(6[m n] t:4[t u])"},
		{"none is left of the one between", a, m[:1], z, "m", "3(2[a b] m:6[t u])"},
		{"none is left of the last one", a, m, z[:1], "t", "3(2[a b] m:6[m n])"},
		{"none is left of the last one, the one ahead is full", a, full, z[:1], "t", "3(2[a b] m:6[m n o p])"},
		{"both are thin still, and so it stays", []api.Cell{in("a", 1), in("b", 1)}, []api.Cell{in("m", 1)}, []api.Cell{in("t", 1)}, "b", "2(6[a m] t:4[t])"},
	} {
		p, _ := fresh(t, 20)
		root := drop(t, p, three(t, p, c.a, c.m, c.b), c.key)
		if got := drawn(p, root); got != c.want {
			t.Errorf("%s:\n%s, want\n%s", c.what, got, c.want)
		}
		wantSound(t, p, root, 2)
		wantNone(t, p, root, c.key)
	}
}

func TestDropFromALeafThatLasts(t *testing.T) {
	p, _ := fresh(t, 20)
	root := three(t, p, []api.Cell{in("a", 60)}, []api.Cell{in("m", 60)}, []api.Cell{in("t", 60)})
	wantCommit(t, p, root)
	root = drop(t, p, root, "t")
	wantDrawn(t, p, root, "7(2[a] m:6[m])")
	wantIs(t, p, "khhhnn")
}

func TestDropFromTheRoot(t *testing.T) {
	p, _ := fresh(t, 20)
	root := drop(t, p, leaf(t, p, in("a", 60), in("b", 60), in("c", 60)), "b")
	wantDrawn(t, p, root, "3[a c]")
	root = drop(t, p, root, "a")
	wantDrawn(t, p, root, "2[c]") // a root may be thin
	wantSound(t, p, root, 1)
	if root = drop(t, p, root, "c"); root != 0 {
		t.Errorf("Drop of the last one: %d", root)
	}
	wantIs(t, p, "ff")
}

// Branches that are dropped from

// deep lays a tree of three branches: the first one, of four leaves, is of this size behind a Drop of aa, which puts two of them together; m is of other leaves; t of three, of which a Drop of tt puts two together.
func deep(t *testing.T, p *pager.Pager, size int, second ...string) int64 {
	t.Helper()
	x := append([]api.Cell{to("", leaf(t, p, in("a", 1), in("aa", 1)))}, leaves(t, p, "b", long("c", 48), long("d", size-71))...)
	y := leaves(t, p, second...)
	z := append([]api.Cell{to("", leaf(t, p, in("t", 1), in("tt", 1)))}, leaves(t, p, "u", "v")...)
	return branch(t, p, to("", branch(t, p, x...)), to("m", branch(t, p, y...)), to("t", branch(t, p, z...)))
}

func TestDropFromABranch(t *testing.T) {
	full := []string{"m", long("n", 48), long("o", 48), long("p", 48), long("q", 48)}
	for _, c := range []struct {
		what   string
		size   int
		second []string
		key    string
		want   string
	}{
		{"76 bytes are not thin", 76, []string{"m", "n"}, "aa", "3(2(15[a b] c/48:4[c/48] d/5:5[d/5]) m:12(6[m] n:7[n]) t:13(8[t tt] u:9[u] v:10[v]))"},
		{"75 bytes are", 75, []string{"m", "n"}, "aa", "3(2(15[a b] c/48:4[c/48] d/4:5[d/4] m:6[m] n:7[n]) t:13(8[t tt] u:9[u] v:10[v]))"},
		{"the last one and the one ahead", 76, []string{"m", "n"}, "tt", "9(11(2[a aa] b:3[b] c/48:4[c/48] d/5:5[d/5]) m:8(6[m] n:7[n] t:15[t u] v:10[v]))"},
		{"halved anew", 75, full, "aa", "14(2(18[a b] c/48:4[c/48] d/4:5[d/4] m:6[m] n/48:7[n/48]) o/48:3(8[o/48] p/48:9[p/48] q/48:10[q/48]) t:16(11[t tt] u:12[u] v:13[v]))"},
	} {
		p, _ := fresh(t, 40)
		root := drop(t, p, deep(t, p, c.size, c.second...), c.key)
		if got := drawn(p, root); got != c.want {
			t.Errorf("%s:\n%s, want\n%s", c.what, got, c.want)
		}
		wantSound(t, p, root, 3)
		wantNone(t, p, root, c.key)
	}
}

// A branch of a single cell, as the root, is none.

func TestDropTillTheRootIsTheLeafBelow(t *testing.T) {
	for _, lasts := range []bool{false, true} {
		p, _ := fresh(t, 20)
		root := branch(t, p, to("", leaf(t, p, in("a", 1), in("b", 1))), to("m", leaf(t, p, in("m", 1))))
		is := "fffn"
		if lasts {
			wantCommit(t, p, root)
			is = "hhhn"
		}
		root = drop(t, p, root, "b")
		wantDrawn(t, p, root, "5[a m]")
		wantIs(t, p, is)
	}
}

func TestDropTillTheRootIsTheBranchBelow(t *testing.T) {
	p, _ := fresh(t, 20)
	x, y := leaves(t, p, "a", "b"), leaves(t, p, "m", "n")
	root := branch(t, p, to("", branch(t, p, x...)), to("m", branch(t, p, y...)))
	wantDrawn(t, p, root, "8(6(2[a] b:3[b]) m:7(4[m] n:5[n]))")
	root = drop(t, p, root, "n")
	wantDrawn(t, p, root, "4(2[a] b:3[b] m:9[m])")
	wantIs(t, p, "nnnffffn")
	wantSound(t, p, root, 2)
}

// A branch may get longer by a Drop: where two leaves are halved anew its Key may be a longer one.

// growing lays a branch of 232 bytes, of whose first two leaves a Drop of aa lets the Key b become one of 48 bytes.
func growing(t *testing.T, p *pager.Pager) int64 {
	t.Helper()
	first := to("", leaf(t, p, in("a", 1), in("aa", 1)))
	second := to("b", leaf(t, p, in("b", 60), in(long("c", 48), 60), in("d", 39)))
	others := leaves(t, p, long("f", 48), long("g", 48), long("h", 48), long("i", 18), long("j", 18))
	return branch(t, p, append([]api.Cell{first, second}, others...)...)
}

func TestDropHalvesTheRoot(t *testing.T) {
	p, _ := fresh(t, 40)
	root := drop(t, p, growing(t, p), "aa")
	wantDrawn(t, p, root, "9(2(10[a b] c/48:11[c/48 d] f/48:4[f/48]) g/48:3(5[g/48] h/48:6[h/48] i/18:7[i/18] j/18:8[j/18]))")
	wantSound(t, p, root, 3)
}

func TestDropHalvesABranchBelow(t *testing.T) {
	p, _ := fresh(t, 40)
	one := growing(t, p)
	other := branch(t, p, leaves(t, p, "y", "z")...)
	root := drop(t, p, branch(t, p, to("", one), to("y", other)), "aa")
	wantDrawn(t, p, root, "9(2(14[a b] c/48:15[c/48 d] f/48:4[f/48]) g/48:3(5[g/48] h/48:6[h/48] i/18:7[i/18] j/18:8[j/18]) y:12(10[y] z:11[z]))")
	wantSound(t, p, root, 3)
}

// Chains

func TestOfAnElderChain(t *testing.T) {
	for _, c := range []struct {
		what    string
		was     int
		now     int // -1: it is dropped
		want    int64
		new     string // what the pages are, if the elder value is new
		lasting string // and if it lasted
	}{
		{"a chain in place of as long a one", 300, 300, 2, "nffnn", "hhhnnn"},
		{"a longer chain", 300, 500, 2, "nffnnn", "hhhnnnn"},
		{"a shorter chain", 500, 300, 2, "nfffnn", "hhhhnnn"},
		{"it is none any more", 300, 60, 2, "nff", "hhhn"},
		{"it becomes one", 60, 300, 5, "fnnn", "hnnn"},
		{"it is none, and was none", 60, 0, 3, "fn", "hn"},
		{"it is dropped", 300, -1, 0, "fff", "hhh"},
	} {
		for _, lasts := range []bool{false, true} {
			p, _ := fresh(t, 30)
			root, is, want := put(t, p, 0, "k", text(c.was)), c.new, c.want
			if lasts {
				wantCommit(t, p, root)
				is, want = c.lasting, max(want, int64(len(c.lasting))+1)
			}
			if c.now < 0 {
				root, want = drop(t, p, root, "k"), 0
			} else {
				root = put(t, p, root, "k", text(c.now))
				wantValue(t, p, root, "k", text(c.now))
			}
			if root != want {
				t.Errorf("%s: it is at %d, want %d", c.what, root, want)
			}
			wantIs(t, p, is)
		}
	}
}

// Chains go with the cells that have them, wherever these are brought.
func TestOfChainsThatAreBroughtElsewhere(t *testing.T) {
	p, _ := fresh(t, 200)
	root, pairs := int64(0), map[string]string{}
	for i := range 30 {
		key := fmt.Sprint(10 + i*11%30)
		pairs[key] = text(61 + i*20)
		root = put(t, p, root, key, pairs[key])
		wantPairs(t, p, root, pairs)
	}
	for i := range 30 {
		key := fmt.Sprint(10 + i*7%30)
		delete(pairs, key)
		root = drop(t, p, root, key)
		wantPairs(t, p, root, pairs)
		if l, e := tree.Pages(p, root); !slices.Equal(l, p.Space().New()) || e != api.OK {
			t.Fatalf("Pages: %v %v, of those that are new %v", l, e, p.Space().New())
		}
	}
}

// Branches of a single cell, which may stand below the root

// narrow lays a tree of five levels: all branches but the root have a single cell.
func narrow(t *testing.T, p *pager.Pager, a, m []api.Cell) int64 {
	t.Helper()
	below := func(cells []api.Cell) int64 {
		one := leaf(t, p, cells...)
		for range 2 {
			one = branch(t, p, to("", one))
		}
		return one
	}
	return branch(t, p, to("", below(a)), to("m", below(m)))
}

func TestOfSingleCells(t *testing.T) {
	p, _ := fresh(t, 30)
	root := narrow(t, p, []api.Cell{in("a", 1)}, []api.Cell{in("m", 1)})
	wantDrawn(t, p, root, "8(4(3(2[a])) m:7(6(5[m])))")
	wantSound(t, p, root, 4)
	q := p.Copy()
	now := put(t, q, root, "b", "1")
	wantDrawn(t, q, now, "4(3(2(9[a b])) m:7(6(5[m])))")
	now = drop(t, q, now, "a")
	wantDrawn(t, q, now, "2(9(8[b]) m:6(5[m]))") // both branches below the root were put together
	wantSound(t, q, now, 3)
	for key, at := range map[string]int64{"a": 5, "m": 2} { // nothing has to be written: the other leaf is the root
		q := p.Copy()
		now := drop(t, q, root, key)
		if now != at {
			t.Errorf("Drop(%q): %d, want %d", key, now, at)
		}
		wantSound(t, q, now, 1)
	}
}

// A single way of as many pages as there may be.
func TestOfTheDeepest(t *testing.T) {
	p, _ := fresh(t, api.MaxPages)
	one, other := leaf(t, p, in("a", 1)), leaf(t, p, in("m", 1))
	for p.Space().High() < api.MaxPages-2 {
		one, other = branch(t, p, to("", one)), branch(t, p, to("", other))
	}
	root := branch(t, p, to("", one), to("m", other))
	if depth, e := tree.Check(p, root); depth != 2047 || e != api.OK {
		t.Errorf("Check: %d %v", depth, e)
	}
	wantValue(t, p, root, "m", "x")
	if _, e := tree.Put(p, root, "b", text(1000)); e != api.ErrRoom {
		t.Errorf("Put: %v", e)
	}
	p.Abort()
}

// Pages that are no tree

func TestOfPagesThatAreNoTree(t *testing.T) {
	for what, lay := range map[string]func(p *pager.Pager) int64{
		"a leaf without cells":          func(p *pager.Pager) int64 { return leaf(t, p) },
		"a branch of a single cell":     func(p *pager.Pager) int64 { return branch(t, p, leaves(t, p, "a")...) },
		"a branch whose first Key is a": func(p *pager.Pager) int64 { return laid(t, p, api.PageBranch, leaves(t, p, "a", "b")...) },
		"a leaf below without cells": func(p *pager.Pager) int64 {
			return branch(t, p, to("", leaf(t, p, in("a", 1))), to("b", leaf(t, p)))
		},
		"a branch below whose first Key is m": func(p *pager.Pager) int64 {
			below := laid(t, p, api.PageBranch, leaves(t, p, "m", "n")...)
			return branch(t, p, to("", branch(t, p, leaves(t, p, "a", "b")...)), to("m", below))
		},
		"leaves that are not equally deep": func(p *pager.Pager) int64 {
			return branch(t, p, to("", leaf(t, p, in("a", 1))), to("m", branch(t, p, leaves(t, p, "m", "n")...)))
		},
		"leaves that are not equally deep, the other way round": func(p *pager.Pager) int64 {
			return branch(t, p, to("", branch(t, p, leaves(t, p, "a", "b")...)), to("m", leaf(t, p, in("m", 1))))
		},
		"a key that is below the Key by which its leaf stands": func(p *pager.Pager) int64 {
			return branch(t, p, to("", leaf(t, p, in("a", 1))), to("m", leaf(t, p, in("l", 1), in("n", 1))))
		},
		"a key that is not below the next Key": func(p *pager.Pager) int64 {
			return branch(t, p, to("", leaf(t, p, in("a", 1), in("m", 1))), to("m", leaf(t, p, in("n", 1))))
		},
		"a Key that is not below the next one above": func(p *pager.Pager) int64 {
			return branch(t, p, to("", branch(t, p, leaves(t, p, "a", "m")...)), to("m", branch(t, p, leaves(t, p, "n", "o")...)))
		},
		"a Key by which the branch stands itself": func(p *pager.Pager) int64 {
			x, y := leaves(t, p, "a", "b"), leaves(t, p, "l", "m")
			return branch(t, p, to("", branch(t, p, x...)), to("m", branch(t, p, y...)))
		},
		"a key far below that is above one of the root": func(p *pager.Pager) int64 {
			x := branch(t, p, to("", leaf(t, p, in("a", 1))), to("b", leaf(t, p, in("b", 1), in("z", 1))))
			return branch(t, p, to("", x), to("m", branch(t, p, leaves(t, p, "m", "n")...)))
		},
		"a key far below that is below one of the root": func(p *pager.Pager) int64 {
			y := branch(t, p, to("", leaf(t, p, in("l", 1), in("m", 1))), to("n", leaf(t, p, in("n", 1))))
			return branch(t, p, to("", branch(t, p, leaves(t, p, "a", "b")...)), to("m", y))
		},
		"a leaf with Next": func(p *pager.Pager) int64 {
			b, _ := slots.Raw(api.PageLeaf, []api.Cell{in("a", 1)})
			number, _ := p.Write(api.PageLeaf, 9, b)
			return number
		},
		"a branch with Next": func(p *pager.Pager) int64 {
			b, _ := slots.Raw(api.PageBranch, append([]api.Cell{to("", leaf(t, p, in("a", 1)))}, leaves(t, p, "b")...))
			number, _ := p.Write(api.PageBranch, 2, b)
			return number
		},
		"a Body that is no cells'": func(p *pager.Pager) int64 {
			number, _ := p.Write(api.PageLeaf, 0, []byte{0, 1})
			return number
		},
		"no Body": func(p *pager.Pager) int64 {
			number, _ := p.Write(api.PageLeaf, 0, nil)
			return number
		},
		"a leaf's cells in a chain's page": func(p *pager.Pager) int64 {
			b, _ := slots.Raw(api.PageLeaf, []api.Cell{in("a", 1)})
			number, _ := p.Write(api.PageChain, 0, b)
			return number
		},
		"a leaf twice": func(p *pager.Pager) int64 {
			one := leaf(t, p, in("a", 1))
			return branch(t, p, to("", one), to("m", one))
		},
		"a branch that leads to itself": func(p *pager.Pager) int64 {
			number := p.Space().High()
			return branch(t, p, to("", number), to("m", number))
		},
		"branches that go round": func(p *pager.Pager) int64 {
			number := p.Space().High()
			branch(t, p, to("", number+1))
			branch(t, p, to("", number))
			return branch(t, p, to("", number), to("m", number+1))
		},
		"a cell that leads to a meta": func(p *pager.Pager) int64 {
			return branch(t, p, to("", leaf(t, p, in("a", 1))), to("m", 1))
		},
		"a cell that leads to High": func(p *pager.Pager) int64 {
			return branch(t, p, to("", leaf(t, p, in("a", 1))), to("m", 4))
		},
		"a cell that leads to a chain": func(p *pager.Pager) int64 {
			number, _ := chain.Put(p, []byte("some"))
			return branch(t, p, to("", leaf(t, p, in("a", 1))), to("m", number))
		},
		"a chain that there is not": func(p *pager.Pager) int64 {
			return leaf(t, p, api.Cell{Key: "a", Long: true, Page: 9, Size: 100})
		},
		"a chain at a meta": func(p *pager.Pager) int64 {
			return leaf(t, p, api.Cell{Key: "a", Long: true, Page: 1, Size: 100})
		},
		"a chain of another size": func(p *pager.Pager) int64 {
			number, _ := chain.Put(p, []byte(text(100)))
			return leaf(t, p, api.Cell{Key: "a", Long: true, Page: number, Size: 101})
		},
		"a chain twice": func(p *pager.Pager) int64 {
			number, _ := chain.Put(p, []byte(text(100)))
			return leaf(t, p, api.Cell{Key: "a", Long: true, Page: number, Size: 100}, api.Cell{Key: "b", Long: true, Page: number, Size: 100})
		},
		"a chain, and what is left of it behind its first page": func(p *pager.Pager) int64 {
			number, _ := chain.Put(p, []byte(text(332)))
			return leaf(t, p, api.Cell{Key: "a", Long: true, Page: number, Size: 332}, api.Cell{Key: "b", Long: true, Page: number - 1, Size: 100})
		},
	} {
		p, _ := fresh(t, 30)
		root := lay(p)
		was := p.Copy()
		if l, e := tree.Pages(p, root); l != nil || e != api.ErrTree {
			t.Errorf("%s: Pages: %v %v", what, l, e)
		}
		if depth, e := tree.Check(p, root); depth != 0 || e != api.ErrTree {
			t.Errorf("%s: Check: %d %v", what, depth, e)
		}
		if e := tree.Clear(p, root); e != api.ErrTree {
			t.Errorf("%s: Clear: %v", what, e)
		}
		wantAlike(t, what, p, was)
		for _, key := range []string{"a", "b", "l", "m", "z"} { // these end, whatever they tell
			for _, do := range []func(q *pager.Pager){
				func(q *pager.Pager) { tree.Get(q, root, key) },
				func(q *pager.Pager) { tree.Put(q, root, key, text(60)) },
				func(q *pager.Pager) { tree.Drop(q, root, key) },
				func(q *pager.Pager) { tree.From(q, root, key, 9) },
			} {
				do(p.Copy())
			}
		}
	}
}

// No cell leads to a meta: where one does, there is no tree, wherever the way to a key goes.
func TestOfCellsThatLeadToAMeta(t *testing.T) {
	p, _ := fresh(t, 30)
	one, other := leaf(t, p, in("a", 60), in("b", 60), in("c", 60)), leaf(t, p, in("z", 1))
	long := api.Cell{Key: "b", Long: true, Page: 1, Size: 300}
	roots := []int64{
		branch(t, p, to("", one), to("m", 1), to("z", other)),
		branch(t, p, to("", 1), to("a", one), to("z", other)),
		leaf(t, p, in("a", 60), long, in("z", 60)),
		branch(t, p, to("", leaf(t, p, in("a", 60), long)), to("z", other)),
	}
	for i, root := range roots {
		for _, key := range []string{"a", "c"} {
			wantRefused(t, fmt.Sprint("tree ", i), p, root, key, api.ErrTree)
			if now, e := tree.Put(p, root, key, text(300)); now != 0 || e != api.ErrTree {
				t.Errorf("tree %d: Put(%q): %d %v", i, key, now, e)
			}
		}
	}
}

// What there is below the way to a key is looked at alone, and only if it is needed.
func TestOfALostPage(t *testing.T) {
	p, _ := fresh(t, 200)
	root, pairs := grown(t, p)
	pages, e := tree.Pages(p, root)
	wantErr(t, "Pages", e, api.OK)
	keys := sortedKeys(pairs)
	for _, gone := range pages {
		q := p.Copy()
		wantErr(t, "the pager's Drop", q.Drop(gone), api.OK)
		was := q.Copy()
		if l, e := tree.Pages(q, root); l != nil || e != api.ErrTree {
			t.Errorf("without page %d: Pages: %v %v", gone, l, e)
		}
		if depth, e := tree.Check(q, root); depth != 0 || e != api.ErrTree {
			t.Errorf("without page %d: Check: %d %v", gone, depth, e)
		}
		wantErr(t, "Clear", tree.Clear(q, root), api.ErrTree)
		lost := 0
		for at, key := range keys {
			value, is, e := tree.Get(q, root, key)
			if e == api.OK && is && value == pairs[key] {
				continue
			}
			if lost++; value != "" || is || e != api.ErrTree {
				t.Errorf("without page %d: Get(%q): %q %v %v", gone, key, value, is, e)
			}
			if now, is, e := tree.Drop(q, root, key); now != 0 || is || e != api.ErrTree {
				t.Errorf("without page %d: Drop(%q): %d %v %v", gone, key, now, is, e)
			}
			if now, e := tree.Put(q, root, key, text(300)); now != 0 || e != api.ErrTree {
				t.Errorf("without page %d: Put(%q): %d %v", gone, key, now, e)
			}
			for _, from := range []string{"", keys[max(at-3, 0)], key} {
				if l, e := tree.From(q, root, from, 100); l != nil || e != api.ErrTree {
					t.Errorf("without page %d: From(%q): %v %v", gone, from, l, e)
				}
			}
		}
		if lost == 0 || gone == root && lost < len(keys) {
			t.Errorf("without page %d %d are lost", gone, lost)
		}
		wantAlike(t, "what is refused", q, was)
	}
}

// A neighbour that can't be read is found out ahead of what is written, and does not matter where none is needed.
func TestOfALostNeighbour(t *testing.T) {
	p, _ := fresh(t, 30)
	root := three(t, p, []api.Cell{in("a", 1), in("b", 60), in("c", 60)}, []api.Cell{in("m", 60)}, []api.Cell{in("t", 60)})
	wantErr(t, "the pager's Drop", p.Drop(3), api.OK)
	now := drop(t, p, root, "a")
	was := p.Copy()
	for _, key := range []string{"b", "c", "t"} {
		if then, is, e := tree.Drop(p, now, key); then != 0 || is || e != api.ErrTree {
			t.Errorf("Drop(%q): %d %v %v", key, then, is, e)
		}
	}
	wantAlike(t, "what is refused", p, was)
	if l, e := tree.From(p, now, "", 2); len(l) != 2 || e != api.OK {
		t.Errorf("From: %v %v", l, e)
	}
	for _, most := range []int{3, 9} {
		if l, e := tree.From(p, now, "", most); l != nil || e != api.ErrTree {
			t.Errorf("From: %v %v", l, e)
		}
	}
	for what, other := range map[string]func() int64{
		"of another Kind":       func() int64 { return branch(t, p, leaves(t, p, "m", "n")...) },
		"without cells":         func() int64 { return leaf(t, p) },
		"of keys from below":    func() int64 { return leaf(t, p, in("c", 1)) },
		"of keys from above":    func() int64 { return leaf(t, p, in("m", 1), in("t", 1)) },
		"the same page as this": func() int64 { return 2 },
	} {
		p.Abort()
		leaf(t, p, in("a", 1), in("b", 60))
		root := branch(t, p, to("", 2), to("m", other()), to("t", leaf(t, p, in("t", 1), in("u", 60))))
		was := p.Copy()
		for _, key := range []string{"a", "b", "t", "u"} {
			if now, is, e := tree.Drop(p, root, key); now != 0 || is || e != api.ErrTree {
				t.Errorf("a neighbour %s: Drop(%q): %d %v %v", what, key, now, is, e)
			}
		}
		wantAlike(t, what, p, was)
	}
}

// A chain that can't be dropped is found out ahead of what is written, too.
func TestOfALostChain(t *testing.T) {
	p, _ := fresh(t, 30)
	root := put(t, p, 0, "a", text(500)) // 4, 3, 2
	root = put(t, p, root, "b", "1")
	wantErr(t, "the pager's Drop", p.Drop(2), api.OK)
	was := p.Copy()
	for _, size := range []int{0, 60, 61, 1000} {
		if now, e := tree.Put(p, root, "a", text(size)); now != 0 || e != api.ErrTree {
			t.Errorf("Put(%d bytes): %d %v", size, now, e)
		}
	}
	if now, is, e := tree.Drop(p, root, "a"); now != 0 || is || e != api.ErrTree {
		t.Errorf("Drop: %d %v %v", now, is, e)
	}
	if l, e := tree.From(p, root, "", 1); l != nil || e != api.ErrTree {
		t.Errorf("From: %v %v", l, e)
	}
	wantAlike(t, "what is refused", p, was)
	wantValue(t, p, root, "b", "1")
	if l, e := tree.From(p, root, "b", 1); len(l) != 1 || e != api.OK {
		t.Errorf("From: %v %v", l, e)
	}
}

// Of each page of a tree that lasts a bit is turned.
func TestOfTurnedBytes(t *testing.T) {
	p, d := fresh(t, 200)
	root, _ := grown(t, p)
	wantCommit(t, p, root)
	pages, _ := tree.Pages(p, root)
	for i, number := range pages {
		for _, at := range []int{0, 4, 5, 13, 17, 21, 24, 30, 200, 255} {
			c := d.Copy()
			b, _ := c.Read(int(number))
			b[at] ^= 1 << (i % 8)
			wantErr(t, "the disk's Write", c.Write(int(number), b), api.OK)
			wantErr(t, fmt.Sprintf("Check, byte %d of page %d turned", at, number), e2(tree.Check(opened(t, c), root)), api.ErrTree)
		}
	}
}

// A room that runs out

// wantRooms does something to a tree that lasts, in stores of more and more room: till that is enough it is refused, and behind an abort all is as it was.
func wantRooms(t *testing.T, what string, lay func(p *pager.Pager) int64, need int, do func(p *pager.Pager, root int64) (int64, api.Errno)) {
	t.Helper()
	p, _ := fresh(t, 100)
	lay(p)
	high := int(p.Space().High())
	for spare := range need + 2 {
		p, _ := fresh(t, high+spare)
		root := lay(p)
		wantCommit(t, p, root)
		was := p.Copy()
		now, e := do(p, root)
		if spare >= need {
			wantErr(t, fmt.Sprintf("%s, %d pages more", what, spare), e, api.OK)
			wantErr(t, "Check", e2(tree.Check(p, now)), api.OK)
			continue
		}
		if now != 0 || e != api.ErrRoom {
			t.Errorf("%s, %d pages more: %d %v", what, spare, now, e)
		}
		wantErr(t, "Abort", p.Abort(), api.OK)
		wantAlike(t, what, p, was)
	}
}

func TestNoRoom(t *testing.T) {
	putting := func(key string, size int) func(p *pager.Pager, root int64) (int64, api.Errno) {
		return func(p *pager.Pager, root int64) (int64, api.Errno) { return tree.Put(p, root, key, text(size)) }
	}
	dropping := func(key string) func(p *pager.Pager, root int64) (int64, api.Errno) {
		return func(p *pager.Pager, root int64) (int64, api.Errno) {
			now, is, e := tree.Drop(p, root, key)
			if is != (e == api.OK) {
				t.Errorf("Drop(%q): %d %v %v", key, now, is, e)
			}
			return now, e
		}
	}
	none := func(p *pager.Pager) int64 { return 0 }
	lasting := func(p *pager.Pager) int64 { return put(t, p, 0, "k", text(300)) }
	wantRooms(t, "the first leaf", none, 1, putting("a", 1))
	wantRooms(t, "the first leaf and a chain", none, 19, putting("a", api.MaxValue))
	wantRooms(t, "a leaf", lasting, 1, putting("a", 1))
	wantRooms(t, "a chain in place of another", lasting, 4, putting("k", 500))
	wantRooms(t, "both halves of a leaf, a branch", func(p *pager.Pager) int64 { return wide(t, p, 224) }, 3, putting("d", 60))
	wantRooms(t, "both halves of a leaf, of a branch, and a root", func(p *pager.Pager) int64 { return wide(t, p, 225) }, 5, putting("d", 60))
	wantRooms(t, "a chain, a leaf, a branch", func(p *pager.Pager) int64 { return wide(t, p, 225) }, 4, putting("j", 300))
	wantRooms(t, "both halves of leaves and of a branch, and a root", func(p *pager.Pager) int64 { return growing(t, p) }, 5, dropping("aa"))
	wantRooms(t, "leaves and branches that are put together", func(p *pager.Pager) int64 { return deep(t, p, 75, "m", "n") }, 3, dropping("aa"))
	wantRooms(t, "the leaf below the root", func(p *pager.Pager) int64 { return branch(t, p, leaves(t, p, "a", "b")...) }, 1, dropping("b"))
	wantRooms(t, "the last key", lasting, 0, dropping("k"))
	wantRooms(t, "a leaf from which a chain goes", func(p *pager.Pager) int64 { return put(t, p, lasting(p), "a", "1") }, 1, dropping("k"))
}
