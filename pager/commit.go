package pager

import (
	"maps"
	"slices"

	"pigeonry/api"
	"pigeonry/meta"
)

// commit is one that is under way.
type commit struct {
	*Pager
	next  api.Meta // the one that is to count
	taken []int64  // the pages of its free list
	elder []byte   // what stood at its page ahead; nothing, till it is written
}

// steps tells what is to be done, in order.
func (c *commit) steps() []func() api.Errno {
	return []func() api.Errno{c.check, c.give, c.take, c.fill, c.write, c.disk.Flush, c.tell, c.disk.Flush, c.last}
}

// check looks whether there may be such a root; and, since a Txid has a bound, whether there may be one more commit.
func (c *commit) check() api.Errno {
	next := c.next
	next.High = c.space.High()
	if next.Root != 0 && !c.holds(next.Root) {
		return api.ErrArg
	}
	return meta.Check(next)
}

// give gives the elder free list's pages back. What the space answers is not asked for: one that was dropped is given back already.
func (c *commit) give() api.Errno {
	for _, number := range c.list {
		c.space.Give(number)
	}
	return api.OK
}

// take takes pages for the free list. Which will be free is asked anew for each, since one that is taken will not.
func (c *commit) take() api.Errno {
	for mostEach*len(c.taken) < len(c.space.Will()) {
		number, e := c.space.Take()
		if e != api.OK {
			return e
		}
		c.taken = append(c.taken, number)
	}
	return api.OK
}

// cut cuts off the first things, at most so many, from those behind them.
func cut[T any](things []T, most int) (first, behind []T) {
	at := min(most, len(things))
	return things[:at:at], things[at:]
}

// head tells the first of pages, 0 if there is none.
func head(pages []int64) int64 {
	if len(pages) == 0 {
		return 0
	}
	return pages[0]
}

// fill writes the pages of the free list.
func (c *commit) fill() api.Errno {
	some, left := cut(c.space.Will(), mostEach)
	for i, number := range c.taken {
		c.put(number, api.Page{Kind: api.PageFree, Txid: c.next.Txid, Next: head(c.taken[i+1:]), Body: body(some)})
		some, left = cut(left, mostEach)
	}
	return api.OK
}

// write writes all that is under way to the disk.
func (c *commit) write() api.Errno {
	var steps []func() api.Errno
	for _, number := range slices.Sorted(maps.Keys(c.under)) {
		steps = append(steps, writing(c.disk, number, c.under[number]))
	}
	return inTurn(steps...)
}

// tell writes the meta to its page.
func (c *commit) tell() api.Errno {
	c.next.Free, c.next.High = head(c.taken), c.space.High()
	b, e := meta.Raw(c.next)
	if e != api.OK {
		return e
	}
	number := meta.Where(c.next.Txid)
	elder, _ := c.disk.Read(int(number)) // each disk has that page
	if e := c.disk.Write(int(number), b); e != api.OK {
		return e
	}
	c.elder = elder
	return api.OK
}

// last lets the meta count.
func (c *commit) last() api.Errno {
	c.meta, c.list = c.next, c.taken
	clear(c.under)
	return c.space.Lasts()
}

// undo lets all be as it was ahead. Where the elder meta can't be brought back, nobody knows which one a crash leaves.
func (c *commit) undo() {
	c.abort()
	if c.elder == nil {
		return
	}
	back := writing(c.disk, meta.Where(c.next.Txid), c.elder)
	c.broken = inTurn(back, c.disk.Flush) != api.OK
}
