package inflate

import (
	"stevedore/api"
)

// Symbols of the literal code.
const (
	stop    = 256 // the end of the block
	shorter = 257 // the first length symbol
	grouped = 265 // the first one with extra bits
	greater = 285 // the last length symbol
)

// Base returns the smallest length of a length symbol, the number of its extra
// bits, and whether there is such a symbol.
func Base(symbol int, wide bool) (int, int, bool) {
	switch {
	case symbol < shorter || symbol > greater:
		return 0, 0, false
	case symbol < grouped:
		return api.MinLen + symbol - shorter, 0, true
	case symbol < greater:
		extra := (symbol-grouped)/4 + 1
		return api.MinLen + (4+(symbol-grouped)%4)<<extra, extra, true
	case wide:
		return api.MinLen, 16, true
	}
	return api.MaxLen, 0, true
}

// Far returns the smallest distance of a distance symbol, the number of its
// extra bits, and whether there is such a symbol.
func Far(symbol int, wide bool) (int, int, bool) {
	switch {
	case symbol < 0 || symbol > lastDistance(wide):
		return 0, 0, false
	case symbol < 4:
		return 1 + symbol, 0, true
	}
	extra := symbol/2 - 1
	return 1 + (2+symbol%2)<<extra, extra, true
}

// lastDistance returns the last distance symbol.
func lastDistance(wide bool) int {
	if wide {
		return 31
	}
	return 29
}

// readLiteral reads a literal or length symbol. The limit is that of the
// length alone, so it is asked ahead of the distance.
func (x *Inflate) readLiteral() {
	s, n := x.symbol(x.codes.literals)
	switch {
	case s < stop:
		x.room(1)
		x.in.Skip(n)
		x.put(byte(s))
	case s == stop:
		x.in.Skip(n)
		x.close()
	default:
		x.matching = x.value(s, n, Base)
		x.room(x.matching)
		x.next = distance
	}
}

// readDistance reads a distance, and copies what stands there.
func (x *Inflate) readDistance() {
	s, n := x.symbol(x.codes.distances)
	b, code := x.last.Copy(x.value(s, n, Far), x.matching)
	if code != api.OK {
		fail(code)
	}
	x.out = append(x.out, b...)
	x.total += len(b)
	x.next = literal
}

// put outputs one byte.
func (x *Inflate) put(c byte) {
	x.last.Put(c)
	x.out = append(x.out, c)
	x.total++
}
