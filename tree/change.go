package tree

import (
	"slices"

	"pigeonry/api"
	"pigeonry/chain"
	"pigeonry/slots"
)

// level is what becomes of a page, and of a neighbour with which it is put together: the cells of the pages that are written, and those that are dropped then.
type level struct {
	kind    api.PageKind
	written [][]api.Cell
	gone    []int64
}

// single tells whether it is a branch of a single cell.
func (l level) single() bool {
	return l.kind == api.PageBranch && len(l.written) == 1 && len(l.written[0]) == 1
}

// joined tells a list in which others stand in place of those from one place on up to another one.
func joined[T any](list []T, from, to int, others ...T) []T {
	return append(append(slices.Clone(list[:from]), others...), list[to:]...)
}

// limit is how many bytes and cells a page has at least that is not thin.
type limit struct{ bytes, cells int }

// thin tells whether a page of such cells is.
func thin(k api.PageKind, cells []api.Cell) bool {
	least := map[api.PageKind]limit{
		api.PageLeaf:   {bytes: 76},
		api.PageBranch: {bytes: 76, cells: 2},
	}[k]
	size, _ := slots.Size(k, cells) // 0 of a branch without cells
	return size < least.bytes || len(cells) < least.cells
}

// parts tells the cells of each page that some need. What Halve answers is not asked for: cells that do not fit are two at least. Both halves fit, since to cells that did there came one, or those of a thin page.
func parts(k api.PageKind, cells []api.Cell) [][]api.Cell {
	if len(cells) == 0 {
		return nil
	}
	if size, _ := slots.Size(k, cells); size <= api.MaxRoom {
		return [][]api.Cell{cells}
	}
	left, right, _ := slots.Halve(k, cells)
	return [][]api.Cell{left, right}
}

// heads tells the cells of the branch above that lead to the pages of a level, the first one by a Key. Of a branch the other one's first Key stands above alone.
func (l level) heads(key string) (cells []api.Cell) {
	for i, page := range l.written {
		if i > 0 {
			key = page[0].Key
		}
		if l.kind == api.PageBranch {
			page[0].Key = ""
		}
		cells = append(cells, api.Cell{Key: key, Page: unwritten})
	}
	return cells
}

// together tells the cells of a page on the way, which are others now, and of its neighbour; by which cell of the branch above the first one of both stands; and the neighbour.
func (v visit) together(above, here spot, now []api.Cell) (cells []api.Cell, first int, neighbour int64) {
	first = min(above.at, len(above.cells)-2)
	second := first + 1
	other := first + second - above.at
	beside := v.read(above.cells[other].Page, above.below(other))
	if beside.kind != here.kind {
		panic(lost(beside.number))
	}
	left, right := now, beside.cells
	if other == first {
		left, right = right, left
	}
	if here.kind == api.PageBranch && len(left) > 0 && len(right) > 0 {
		right[0].Key = above.cells[second].Key
	}
	return joined(left, len(left), len(left), right...), first, beside.number
}

// plan tells what becomes of the pages on a way, from the leaf on, which has other cells now. All that has to be read is read here, ahead of what is written.
func (v visit) plan(way []spot, now []api.Cell, drops bool) (levels []level) {
	for i, here := range slices.Backward(way) {
		l := level{kind: here.kind, gone: []int64{here.number}}
		if i == 0 {
			l.written = parts(l.kind, now)
			return append(levels, l)
		}
		above := way[i-1]
		from, to := above.at, above.at+1
		if drops && thin(here.kind, now) && len(above.cells) > 1 {
			cells, first, neighbour := v.together(above, here, now)
			now, from, to = cells, first, first+2
			l.gone = append(l.gone, neighbour)
		}
		l.written = parts(l.kind, now)
		levels = append(levels, l)
		now = joined(above.cells, from, to, l.heads(above.cells[from].Key)...)
	}
	return levels
}

// topped tells the levels up to the root, and the root: 0, if none is left; unwritten, if it is the last page that is written; else a page that stands already, as there may be where branches below the root have a single cell, which no call leaves.
func (v visit) topped(levels []level) ([]level, int64) {
	top := len(levels) - 1
	switch len(levels[top].written) {
	case 0:
		return levels, 0
	case 2:
		above := level{kind: api.PageBranch, written: [][]api.Cell{levels[top].heads("")}}
		return append(levels, above), unwritten
	}
	root := int64(unwritten)
	for at := top; root == unwritten && levels[at].single(); at-- {
		root = levels[at].written[0][0].Page
		levels[at].written = nil
	}
	for root != unwritten {
		s := v.read(root, span{})
		if s.kind == api.PageLeaf || len(s.cells) > 1 {
			break
		}
		levels[top].gone = append(levels[top].gone, root)
		root = s.cells[0].Page
	}
	return levels, root
}

// giveBack drops pages. What the pager answers is not asked for: each of them was read, but that of a leaf that is none.
func (v visit) giveBack(pages ...int64) {
	for _, number := range pages {
		v.Drop(number)
	}
}

// write writes levels, whose cells lead to the pages below that were written just ahead, in their order; it tells those of the last one.
func (v visit) write(levels []level, below ...int64) []int64 {
	for _, l := range levels {
		var numbers []int64
		for _, cells := range l.written {
			for i := range cells {
				if cells[i].Page == unwritten {
					cells[i].Page, below = below[0], below[1:]
				}
			}
			numbers = append(numbers, v.page(l.kind, cells))
		}
		if len(numbers) > 0 { // else the one below is to be the root
			below = numbers
		}
		v.giveBack(l.gone...)
	}
	return below
}

// page writes one. What Raw answers is not asked for: parts fit.
func (v visit) page(k api.PageKind, cells []api.Cell) int64 {
	b, _ := slots.Raw(k, cells)
	number, e := v.Write(k, 0, b)
	if e != api.OK {
		panic(e)
	}
	return number
}

// longer writes the chain of a value that does not stand in its cell, if there is one, and tells its first page.
func (v visit) longer(value []byte) []int64 {
	if len(value) == 0 {
		return nil
	}
	first, e := chain.Put(v.Pager, value)
	if e != api.OK {
		panic(e)
	}
	return []int64{first}
}

// change lets cells stand in the leaf of a way in place of the one that has its key, if one has it; it tells the root then. A new chain is written ahead of the elder one being dropped, as pages are.
func (v visit) change(way []spot, long []byte, cells ...api.Cell) int64 {
	leaf := last(way)
	to := leaf.at
	var elder []int64
	if leaf.is {
		elder = v.chained(leaf.cells[leaf.at])
		to++
	}
	drops := len(cells) == 0
	levels, root := v.topped(v.plan(way, joined(leaf.cells, leaf.at, to, cells...), drops))
	below := v.longer(long)
	v.giveBack(elder...)
	written := v.write(levels, below...)
	if root == unwritten {
		return last(written)
	}
	return root
}

// put puts a value.
func (v visit) put(root int64, key, value string) int64 {
	way := v.way(root, key)
	if len(value) <= api.MaxInline {
		return v.change(way, nil, api.Cell{Key: key, Text: value})
	}
	return v.change(way, []byte(value), api.Cell{Key: key, Long: true, Page: unwritten, Size: int64(len(value))})
}

// drop drops a key.
func (v visit) drop(root int64, key string) (int64, bool) {
	way := v.way(root, key)
	if !last(way).is {
		return root, false
	}
	return v.change(way, nil), true
}
