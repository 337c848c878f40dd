package keys

import (
	"cmp"
	"math"
	"strings"

	"pigeonry/api"
)

const (
	kindSize = 1 // bytes of a part's Kind
	wordSize = 8 // bytes of a number
	endSize  = 2 // bytes behind those of a text
	byteBits = 8

	highest  uint64 = 1 << 63            // the bit
	noNumber uint64 = 0x7ff8000000000000 // the bits of all that are no number
)

// What stands behind a 0 in a text's bytes. The end is the lesser one, so that a text stands ahead of those that begin with it.
const (
	ends   byte = 0x01
	within byte = 0xff // the 0 is one of the text's own
)

// unread is bytes that were not read yet.
type unread string

func (u *unread) next() byte {
	if *u == "" {
		panic(api.ErrKey)
	}
	first := (*u)[0]
	*u = (*u)[1:]
	return first
}

// form is what parts of a Kind are like.
type form struct {
	without func(p api.Part) api.Part         // one without what the Kind has; not a copy of just that, as what is no number is never the same as its copy
	size    func(p api.Part) int              // how many bytes it has behind its Kind
	lay     func(b []byte, p api.Part) []byte // lays these behind others
	read    func(u *unread) api.Part          // what was laid so
	stand   func(a, b api.Part) int           // how two of the Kind stand
}

// forms tells them by their Kinds.
func forms() map[api.PartKind]form {
	return map[api.PartKind]form{
		api.PartInt:   ints(),
		api.PartFloat: floats(),
		api.PartText:  texts(),
	}
}

// word tells a number's bits. All that are no number have the same, as -0 and 0 have.
func word(f float64) uint64 {
	switch {
	case math.IsNaN(f):
		return noNumber
	case f == 0:
		return 0
	}
	return math.Float64bits(f)
}

// turn tells a number's bits so that they stand as the number does.
func turn(bits uint64) uint64 {
	if bits >= highest {
		return ^bits
	}
	return bits | highest
}

// turnBack tells them back.
func turnBack(turned uint64) uint64 {
	if turned >= highest {
		return turned &^ highest
	}
	return ^turned
}

// numbers is that of Kinds whose parts are told by 64 bits that stand as they do.
func numbers(without func(api.Part) api.Part, bits func(api.Part) uint64, part func(bits uint64) api.Part) form {
	return form{
		without: without,
		size:    func(api.Part) int { return wordSize },
		lay: func(b []byte, p api.Part) []byte {
			all := bits(p)
			for i := range wordSize {
				b = append(b, byte(all>>(byteBits*(wordSize-1-i))))
			}
			return b
		},
		read: func(u *unread) api.Part {
			var all uint64
			for range wordSize {
				all = all<<byteBits | uint64(u.next())
			}
			return part(all)
		},
		stand: func(a, b api.Part) int { return cmp.Compare(bits(a), bits(b)) },
	}
}

func ints() form {
	return numbers(
		func(p api.Part) api.Part {
			p.N = 0
			return p
		},
		func(p api.Part) uint64 { return uint64(p.N) + highest },
		func(bits uint64) api.Part { return Int(int64(bits - highest)) },
	)
}

func floats() form {
	return numbers(
		func(p api.Part) api.Part {
			p.F = 0
			return p
		},
		func(p api.Part) uint64 { return turn(word(p.F)) },
		func(bits uint64) api.Part { return Float(math.Float64frombits(turnBack(bits))) },
	)
}

func texts() form {
	return form{
		without: func(p api.Part) api.Part {
			p.S = ""
			return p
		},
		size: func(p api.Part) int {
			size := len(p.S) + endSize
			for i := range len(p.S) {
				if p.S[i] == 0 {
					size++
				}
			}
			return size
		},
		lay: func(b []byte, p api.Part) []byte {
			for i := range len(p.S) {
				b = append(b, p.S[i])
				if p.S[i] == 0 {
					b = append(b, within)
				}
			}
			return append(b, 0, ends)
		},
		read:  readText,
		stand: func(a, b api.Part) int { return strings.Compare(a.S, b.S) },
	}
}

func readText(u *unread) api.Part {
	var s []byte
	for {
		one := u.next()
		if one == 0 {
			switch u.next() {
			case ends:
				return Text(string(s))
			case within:
			default:
				panic(api.ErrKey)
			}
		}
		s = append(s, one)
	}
}
