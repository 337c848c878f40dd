// Package crc is layer 1: sums of 32 bits, of bytes and of bytes put together.
package crc

import (
	"iter"
	"math/bits"

	"pigeonry/api"
)

const (
	allBits = 0xffffffff // what a sum is ahead of its first byte
	maxRun  = 1 << 40
)

// words holds the words of the bytes 0, 16, 32 and so on to 240. The first four halvings of such a byte only shift it, so each is at once what four halvings make of its place.
var words = [16]uint32{
	0x00000000, 0x1db71064, 0x3b6e20c8, 0x26d930ac,
	0x76dc4190, 0x6b6b51f4, 0x4db26158, 0x5005713c,
	0xedb88320, 0xf00f9344, 0xd6d6a3e8, 0xcb61b38c,
	0x9b64c2b0, 0x86d3d2d4, 0xa00ae278, 0xbdbdf21c,
}

// Word tells a byte's word.
func Word(b byte) uint32 {
	w := uint32(b)
	for range 2 {
		w = words[w&15] ^ w>>4
	}
	return w
}

// step tells what a sum, not yet turned, is behind one more byte.
func step(sum uint32, b byte) uint32 { return Word(byte(sum)^b) ^ sum>>8 }

// each goes over the bytes of the parts, one part behind the other.
func each(parts ...[]byte) iter.Seq[byte] {
	return func(yield func(byte) bool) {
		for _, part := range parts {
			for _, b := range part {
				if !yield(b) {
					return
				}
			}
		}
	}
}

// Sum tells the sum of the parts, one behind the other.
func Sum(parts ...[]byte) uint32 {
	sum := uint32(allBits)
	for b := range each(parts...) {
		sum = step(sum, b)
	}
	return ^sum
}

// lead is what some bytes of 0 make of a sum that is not turned: each bit that is set brings its own number, and these are put together by xor.
type lead [32]uint32

// leadOne tells the lead of one byte.
func leadOne() *lead {
	var one lead
	for bit := range 32 {
		one[bit] = step(1<<bit, 0)
	}
	return &one
}

// of leads a sum on.
func (l *lead) of(sum uint32) uint32 {
	var led uint32
	for bit := range 32 {
		if sum>>bit&1 == 1 {
			led ^= l[bit]
		}
	}
	return led
}

// times tells the lead of the bytes of both.
func times(l, m *lead) *lead {
	var both lead
	for bit := range 32 {
		both[bit] = m.of(l[bit])
	}
	return &both
}

// Join tells the sum of two runs, one behind the other, of which the second has n bytes. What is turned at the ends of both sums cancels out, so the first one need only be led over as many bytes of 0.
func Join(a, b uint32, n int64) (uint32, api.Errno) {
	if n < 0 || n > maxRun {
		return 0, api.ErrArg
	}
	l := leadOne()
	for bit := range bits.Len64(uint64(n)) {
		if n>>bit&1 == 1 {
			a = l.of(a)
		}
		l = times(l, l)
	}
	return a ^ b, api.OK
}

// count is how many bytes were written. Made tells the sum of New from a zero object, which is as none.
type count struct {
	made bool
	n    int64
}

// Adder is a sum under way.
type Adder struct {
	count
	sum uint32 // not turned, so that it can go on
}

// New makes a sum under way, of no bytes.
func New() *Adder { return &Adder{count: count{made: true}, sum: allBits} }

// there tells whether New made it.
func (a *Adder) there() bool { return a != nil && a.made }

// Write puts bytes behind those that were written.
func (a *Adder) Write(b []byte) api.Errno {
	if !a.there() {
		return api.ErrNil
	}
	for c := range each(b) {
		a.sum = step(a.sum, c)
	}
	a.n += int64(len(b))
	return api.OK
}

// Sum tells the sum of all that was written.
func (a *Adder) Sum() uint32 {
	if !a.there() {
		return 0
	}
	return ^a.sum
}

// Len tells how many bytes were written.
func (a *Adder) Len() int64 {
	if !a.there() {
		return 0
	}
	return a.n
}

// Copy tells another one of the same, that goes on apart.
func (a *Adder) Copy() *Adder {
	if !a.there() {
		return nil
	}
	c := *a
	return &c
}
