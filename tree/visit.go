package tree

import (
	"iter"

	"pigeonry/api"
	"pigeonry/pager"
	"pigeonry/slots"
)

// unwritten stands in a cell that leads to a page which is yet to be written. It is a meta's, so no cell of a tree leads there.
const unwritten = 1

// lost is a page at which a call gives up: it can't be read, or is none of a tree's.
type lost int64

// visit is what one call does with a pager.
type visit struct {
	*pager.Pager
	seen map[int64]struct{} // the pages that it came to
}

// comesTo gives up at a page to which it came ahead: a tree has each of its pages once, else none could be dropped for one cell alone, and ways could go round.
func (v visit) comesTo(number int64) {
	if _, is := v.seen[number]; is {
		panic(lost(number))
	}
	v.seen[number] = struct{}{}
}

// span is where keys may stand: from one on, and below another one; at that end at which there is none it is open.
type span struct{ from, to string }

// has tells whether a key may stand there.
func (s span) has(key string) bool { return key >= s.from && (s.to == "" || key < s.to) }

// spot is a page that was read on the way to a key.
type spot struct {
	number int64
	kind   api.PageKind
	cells  []api.Cell
	keys   span
	depth  int
	at     int  // of a branch the cell by which the way goes on; of a leaf where the key stands
	is     bool // it stands just there
}

// below tells which keys may stand below a cell.
func (s spot) below(at int) span {
	keys := span{s.cells[at].Key, s.keys.to}
	if at == 0 {
		keys.from = s.keys.from // its own Key is none
	}
	if at+1 < len(s.cells) {
		keys.to = s.cells[at+1].Key
	}
	return keys
}

// may tells whether a page may stand in a tree.
func (s spot) may() bool {
	for i, c := range s.cells {
		has := s.keys.has(c.Key)
		if i == 0 && s.kind == api.PageBranch {
			has = c.Key == ""
		}
		if !has || c.Page == unwritten {
			return false
		}
	}
	return len(s.cells) > 0
}

// read reads a page. What the pager answers is not asked for: a page that can't be read is of a Kind that has no cells.
func (v visit) read(number int64, keys span) spot {
	v.comesTo(number)
	one, _ := v.Read(number)
	cells, e := slots.Parse(one.Kind, one.Body)
	s := spot{number: number, kind: one.Kind, cells: cells, keys: keys}
	if e != api.OK || one.Next != 0 || !s.may() {
		panic(lost(number))
	}
	return s
}

// aim tells a spot from where the way to a key goes on. A branch has no key below its first cell's.
func (s spot) aim(key string) spot {
	s.at, s.is = slots.Find(s.cells, key)
	if s.kind == api.PageBranch && !s.is {
		s.at--
	}
	return s
}

// pages goes over the pages of a tree, each one ahead of those below it, by rising keys: first over those on the way to a key, then over those behind that.
func (v visit) pages(root int64, key string) iter.Seq[spot] {
	return func(yield func(spot) bool) {
		leaves := 0 // how deep they are, as soon as there was one
		var down func(number int64, keys span, depth int) bool
		down = func(number int64, keys span, depth int) bool {
			s := v.read(number, keys).aim(key)
			s.depth = depth
			leaf := s.kind == api.PageLeaf
			if leaf && leaves > 0 && depth != leaves || !leaf && depth == 1 && len(s.cells) < 2 {
				panic(lost(number))
			}
			if !yield(s) {
				return false
			}
			if leaf {
				leaves = depth
				return true
			}
			for at := s.at; at < len(s.cells); at++ {
				if !down(s.cells[at].Page, s.below(at), depth+1) {
					return false
				}
			}
			return true
		}
		if root != 0 {
			down(root, span{}, 1)
		}
	}
}

// way tells the pages from the root down to the leaf in which a key stands, or would. Where nothing stands that is a leaf without a cell, which is no page.
func (v visit) way(root int64, key string) (all []spot) {
	for s := range v.pages(root, key) {
		all = append(all, s)
		if s.kind == api.PageLeaf {
			return all
		}
	}
	return []spot{{kind: api.PageLeaf}}
}

// last tells the last one of things.
func last[T any](things []T) T { return things[len(things)-1] }
