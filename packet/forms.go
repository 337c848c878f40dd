package packet

import (
	"pigeonry/api"
	"pigeonry/topic"
	"pigeonry/utf"
	"pigeonry/wire"
)

// What each PackConnect begins with.
const (
	protocol = "MQTT"
	level    = 4
)

const (
	maxClient = 23  // bytes
	maxUser   = 200 // bytes of a User, and of a Pass
	maxQos    = 2
	maxCode   = 5
	maxList   = 8
	failed    = 128 // what of Codes is no Qos
	pairMost  = 1<<(8*pairSize) - 1
)

// How many bytes a number has.
const (
	byteSize = 1
	pairSize = 2
)

// Bits of the flags: of a Qos, which has two, the lower one.
const (
	publishRetain = 0
	publishQos    = 1
	publishDup    = 3

	connectClean      = 1
	connectHasWill    = 2
	connectWillQos    = 3
	connectWillRetain = 5
	connectHasPass    = 6
	connectHasUser    = 7

	qosBits = 1<<2 - 1
)

// Flags of Kinds whose flags are always the same.
const (
	plain  byte = 0
	marked byte = 2
)

// form is what packets of a Kind are like.
type form struct {
	has   func(p api.Pack) (has api.Pack, may bool)         // a copy of all that the Kind has, and whether that may be
	write func(w *wire.Writer, p api.Pack) (low byte)       // writes what stands behind the length, ahead of a PackPublish's Body, and tells the flags of the first byte
	read  func(r *wire.Reader, first byte) (whole api.Pack) // what was written so
}

// forms tells them by their Kinds.
func forms() map[api.PackKind]form {
	return map[api.PackKind]form{
		api.PackConnect:     connect(),
		api.PackConnack:     connack(),
		api.PackPublish:     publish(),
		api.PackPuback:      numbered(plain),
		api.PackPubrec:      numbered(plain),
		api.PackPubrel:      numbered(marked),
		api.PackPubcomp:     numbered(plain),
		api.PackSubscribe:   subscribe(),
		api.PackSuback:      suback(),
		api.PackUnsubscribe: unsubscribe(),
		api.PackUnsuback:    numbered(plain),
		api.PackPingreq:     bare(),
		api.PackPingresp:    bare(),
		api.PackDisconnect:  bare(),
	}
}

// flags tells all of them as one byte.
func flags(all ...byte) byte {
	var b byte
	for _, one := range all {
		b |= one
	}
	return b
}

// flag tells a truth as a bit.
func flag(is bool, bit int) byte {
	if is {
		return 1 << bit
	}
	return 0
}

// isFlag tells it back.
func isFlag(b byte, bit int) bool { return b>>bit&1 == 1 }

// qosFlags tells a Qos as its bits.
func qosFlags(qos, bit int) byte { return byte(qos) << bit }

// qosOf tells it back. Both bits may be set; a Qos that is so may not be.
func qosOf(b byte, bit int) int { return int(b >> bit & qosBits) }

// must tells what was read, if it could be.
func must[T any](read T, e api.Errno) T {
	if e != api.OK {
		panic(api.ErrPack)
	}
	return read
}

// list reads things to the end, each of which has bytes. It gives up behind as many as there may be, lest what is wrong take much room.
func list[T any](r *wire.Reader, next func() T) []T {
	var all []T
	for r.Left() > 0 {
		if len(all) == maxList {
			panic(api.ErrPack)
		}
		all = append(all, next())
	}
	return all
}

// isList tells whether there are as many things as may be listed, and all of them are such.
func isList[T any](all []T, such func(T) bool) bool {
	if len(all) == 0 || len(all) > maxList {
		return false
	}
	for _, one := range all {
		if !such(one) {
			return false
		}
	}
	return true
}

func isSaid(s string, most int) bool { return len(s) <= most && utf.Check(s) == api.OK }

func isBody(s string) bool { return len(s) <= api.MaxBody }

func isQos(qos int) bool { return qos >= 0 && qos <= maxQos }

func isID(id int64) bool { return id >= 1 && id <= pairMost }

func isWill(w api.Will) bool { return topic.Name(w.Topic) && isBody(w.Body) && isQos(w.Qos) }

func connect() form {
	return form{
		has: func(p api.Pack) (api.Pack, bool) {
			has := api.Pack{Client: p.Client, Clean: p.Clean, Keep: p.Keep, HasWill: p.HasWill, HasUser: p.HasUser}
			may := isSaid(p.Client, maxClient) && (p.Client != "" || p.Clean) && p.Keep >= 0 && p.Keep <= pairMost
			if p.HasWill {
				has.Will = p.Will
				may = may && isWill(p.Will)
			}
			if p.HasUser {
				has.User, has.HasPass = p.User, p.HasPass
				may = may && isSaid(p.User, maxUser)
			}
			if has.HasPass {
				has.Pass = p.Pass
				may = may && len(p.Pass) <= maxUser
			}
			return has, may
		},
		write: writeConnect,
		read:  readConnect,
	}
}

func connectFlags(p api.Pack) byte {
	return flags(
		flag(p.Clean, connectClean),
		flag(p.HasWill, connectHasWill),
		qosFlags(p.Will.Qos, connectWillQos),
		flag(p.Will.Retain, connectWillRetain),
		flag(p.HasPass, connectHasPass),
		flag(p.HasUser, connectHasUser),
	)
}

func writeConnect(w *wire.Writer, p api.Pack) byte {
	w.Text(protocol)
	w.Number(level, byteSize)
	w.Number(uint64(connectFlags(p)), byteSize)
	w.Number(uint64(p.Keep), pairSize)
	w.Text(p.Client)
	if p.HasWill {
		w.Text(p.Will.Topic)
		w.Text(p.Will.Body)
	}
	if p.HasUser {
		w.Text(p.User)
	}
	if p.HasPass {
		w.Text(p.Pass)
	}
	return plain
}

func readConnect(r *wire.Reader, _ byte) api.Pack {
	must(r.Text())
	must(r.Number(byteSize))
	b := byte(must(r.Number(byteSize)))
	p := api.Pack{Clean: isFlag(b, connectClean), HasWill: isFlag(b, connectHasWill), HasUser: isFlag(b, connectHasUser), HasPass: isFlag(b, connectHasPass)}
	p.Keep = int64(must(r.Number(pairSize)))
	p.Client = must(r.Text())
	if p.HasWill {
		p.Will = api.Will{Topic: must(r.Text()), Body: must(r.Text()), Qos: qosOf(b, connectWillQos), Retain: isFlag(b, connectWillRetain)}
	}
	if p.HasUser {
		p.User = must(r.Text())
	}
	if p.HasPass {
		p.Pass = must(r.Text())
	}
	return p
}

func connack() form {
	return form{
		has: func(p api.Pack) (api.Pack, bool) {
			has := api.Pack{Code: p.Code}
			if p.Code == 0 {
				has.Present = p.Present
			}
			return has, p.Code >= 0 && p.Code <= maxCode
		},
		write: func(w *wire.Writer, p api.Pack) byte {
			w.Truth(p.Present)
			w.Number(uint64(p.Code), byteSize)
			return plain
		},
		read: func(r *wire.Reader, _ byte) api.Pack {
			return api.Pack{Present: must(r.Truth()), Code: int(must(r.Number(byteSize)))}
		},
	}
}

func publish() form {
	return form{
		has: func(p api.Pack) (api.Pack, bool) {
			has := api.Pack{Topic: p.Topic, Body: p.Body, Qos: p.Qos, Retain: p.Retain}
			may := topic.Name(p.Topic) && isBody(p.Body) && isQos(p.Qos)
			if p.Qos > 0 {
				has.ID, has.Dup = p.ID, p.Dup
				may = may && isID(p.ID)
			}
			return has, may
		},
		write: func(w *wire.Writer, p api.Pack) byte {
			w.Text(p.Topic)
			if p.Qos > 0 {
				w.Number(uint64(p.ID), pairSize)
			}
			return flags(flag(p.Retain, publishRetain), qosFlags(p.Qos, publishQos), flag(p.Dup, publishDup))
		},
		read: func(r *wire.Reader, first byte) api.Pack {
			p := api.Pack{Dup: isFlag(first, publishDup), Qos: qosOf(first, publishQos), Retain: isFlag(first, publishRetain)}
			p.Topic = must(r.Text())
			if p.Qos > 0 {
				p.ID = int64(must(r.Number(pairSize)))
			}
			p.Body = string(r.Rest())
			return p
		},
	}
}

// numbered is that of Kinds that have an ID, and nothing else.
func numbered(low byte) form {
	return form{
		has: func(p api.Pack) (api.Pack, bool) { return api.Pack{ID: p.ID}, isID(p.ID) },
		write: func(w *wire.Writer, p api.Pack) byte {
			w.Number(uint64(p.ID), pairSize)
			return low
		},
		read: func(r *wire.Reader, _ byte) api.Pack { return api.Pack{ID: int64(must(r.Number(pairSize)))} },
	}
}

func subscribe() form {
	id := numbered(marked)
	return form{
		has: func(p api.Pack) (api.Pack, bool) {
			has, may := id.has(p)
			has.Wants = p.Wants
			return has, may && isList(p.Wants, func(want api.Want) bool { return topic.Filter(want.Filter) && isQos(want.Qos) })
		},
		write: func(w *wire.Writer, p api.Pack) byte {
			low := id.write(w, p)
			for _, want := range p.Wants {
				w.Text(want.Filter)
				w.Number(uint64(want.Qos), byteSize)
			}
			return low
		},
		read: func(r *wire.Reader, first byte) api.Pack {
			p := id.read(r, first)
			p.Wants = list(r, func() api.Want {
				return api.Want{Filter: must(r.Text()), Qos: int(must(r.Number(byteSize)))}
			})
			return p
		},
	}
}

func suback() form {
	id := numbered(plain)
	return form{
		has: func(p api.Pack) (api.Pack, bool) {
			has, may := id.has(p)
			has.Codes = p.Codes
			return has, may && isList(p.Codes, func(code int) bool { return isQos(code) || code == failed })
		},
		write: func(w *wire.Writer, p api.Pack) byte {
			low := id.write(w, p)
			for _, code := range p.Codes {
				w.Number(uint64(code), byteSize)
			}
			return low
		},
		read: func(r *wire.Reader, first byte) api.Pack {
			p := id.read(r, first)
			p.Codes = list(r, func() int { return int(must(r.Number(byteSize))) })
			return p
		},
	}
}

func unsubscribe() form {
	id := numbered(marked)
	return form{
		has: func(p api.Pack) (api.Pack, bool) {
			has, may := id.has(p)
			has.Filters = p.Filters
			return has, may && isList(p.Filters, topic.Filter)
		},
		write: func(w *wire.Writer, p api.Pack) byte {
			low := id.write(w, p)
			for _, filter := range p.Filters {
				w.Text(filter)
			}
			return low
		},
		read: func(r *wire.Reader, first byte) api.Pack {
			p := id.read(r, first)
			p.Filters = list(r, func() string { return must(r.Text()) })
			return p
		},
	}
}

// bare is that of Kinds that have nothing.
func bare() form {
	return form{
		has:   func(api.Pack) (api.Pack, bool) { return api.Pack{}, true },
		write: func(*wire.Writer, api.Pack) byte { return plain },
		read:  func(*wire.Reader, byte) api.Pack { return api.Pack{} },
	}
}
