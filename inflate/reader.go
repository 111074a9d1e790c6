package inflate

import (
	"stevedore/api"
	"stevedore/table"
)

// longest is the greatest number of bits that a code word has.
const longest = 15

// fail gives up: the stream has an error.
func fail(code api.Errno) { panic(api.Fault{Code: code}) }

// caught returns the error of what was thrown, OK if nothing was.
func caught(thrown any) api.Errno {
	switch fault := thrown.(type) {
	case nil:
		return api.OK
	case api.Fault:
		return fault.Code
	}
	panic(thrown) // no fault of the stream but a mistake in this package
}

// lack gives up for want of bits.
func (x *Inflate) lack() {
	if x.in.Ended() {
		fail(api.ErrForm)
	}
	fail(api.ErrShort)
}

// behind returns the n bits that follow the next skipped ones; all of them, at
// most 31, stay unused.
func (x *Inflate) behind(skipped, n int) int {
	if skipped+n > x.in.Bits() {
		x.lack()
	}
	return int(x.in.Peek(skipped+n) >> skipped)
}

// number reads a number of n bits.
func (x *Inflate) number(n int) int {
	v := x.behind(0, n)
	x.in.Skip(n)
	return v
}

// symbol returns the next symbol in a code, and how many bits it takes, which
// stay unused.
func (x *Inflate) symbol(in *table.Table) (int, int) {
	s, n, code := in.Find(x.in.Peek(longest), x.in.Bits())
	if code == api.ErrShort {
		x.lack()
	}
	if code != api.OK {
		fail(code)
	}
	return s, n
}

// value reads what a symbol of n bits and the extra bits behind it represent
// by Base or by Far.
func (x *Inflate) value(symbol, n int, by func(int, bool) (int, int, bool)) int {
	least, extra, ok := by(symbol, x.wide)
	if !ok {
		fail(api.ErrForm)
	}
	v := least + x.behind(n, extra)
	x.in.Skip(n + extra)
	return v
}

// room gives up if n more bytes of output are too many.
func (x *Inflate) room(n int) {
	if n > x.most-x.total {
		fail(api.ErrLimit)
	}
}
