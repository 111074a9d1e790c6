package gzip_test

import (
	"hash/crc32"
	"math"
	"math/rand/v2"

	"stevedore/api"
	"stevedore/gzip"
	"stevedore/inflate"
)

// What chapter 17 allows.
const (
	maxBytes = 1 << 30
	longest  = 65535
	usual    = 32768
)

// The flags of a header.
const (
	flagText = 1 << iota
	flagSum
	flagExtra
	flagName
	flagComment
)

var nan, inf, minusZero = math.NaN(), math.Inf(1), math.Copysign(0, -1)

// source returns random numbers, the same ones every time.
func source(seed uint64) *rand.Rand { return rand.New(rand.NewPCG(seed, 17)) }

// little returns the lowest n bytes of v, the least significant one first.
func little(v, n int) []byte {
	var b []byte
	for range n {
		b = append(b, byte(v))
		v >>= 8
	}
	return b
}

// header returns the bytes of a header; what no flag says is left out.
func header(flags byte, time uint32, extra, name, comment string) []byte {
	b := append([]byte{0x1f, 0x8b, 8, flags}, little(int(time), 4)...)
	b = append(b, 2, 3)
	if flags&flagExtra != 0 {
		b = append(append(b, little(len(extra), 2)...), extra...)
	}
	if flags&flagName != 0 {
		b = append(append(b, name...), 0)
	}
	if flags&flagComment != 0 {
		b = append(append(b, comment...), 0)
	}
	if flags&flagSum != 0 {
		b = append(b, little(int(crc32.ChecksumIEEE(b)), 2)...)
	}
	return b
}

// sameHead tells whether two headers are equal, NaN being equal to NaN.
func sameHead(a, b gzip.Head) bool {
	return a.Named == b.Named && a.Name == b.Name && (a.Time == b.Time || a.Time != a.Time && b.Time != b.Time)
}

// sameParts tells whether two lists of parts are equal.
func sameParts(a, b []gzip.Part) bool {
	if len(a) != len(b) {
		return false
	}
	for i := range a {
		one, other := a[i], b[i]
		one.Head, other.Head = gzip.Head{}, gzip.Head{}
		if !sameHead(a[i].Head, b[i].Head) || one != other {
			return false
		}
	}
	return true
}

// walk is a header of which one byte after the other is asked for.
type walk struct {
	b    []byte
	at   int
	code api.Errno // the first error
}

func (w *walk) next() int {
	if w.code == api.OK && w.at == len(w.b) {
		w.code = api.ErrShort
	}
	if w.code != api.OK {
		return 0
	}
	w.at++
	return int(w.b[w.at-1])
}

func (w *walk) demand(ok bool) {
	if w.code == api.OK && !ok {
		w.code = api.ErrForm
	}
}

func (w *walk) text() string {
	var s []byte
	for {
		c := w.next()
		if c == 0 || w.code != api.OK {
			return string(s)
		}
		s = append(s, byte(c))
		w.demand(len(s) <= longest)
	}
}

// readModel is promise 17.1, byte by byte.
func readModel(b []byte) (gzip.Head, int, api.Errno) {
	w := &walk{b: b}
	var h gzip.Head
	w.demand(w.next() == 0x1f || w.code != api.OK)
	w.demand(w.next() == 0x8b || w.code != api.OK)
	w.demand(w.next() == 8 || w.code != api.OK)
	flags := w.next()
	w.demand(flags < 32)
	time := w.next() | w.next()<<8 | w.next()<<16 | w.next()<<24
	h.Time = float64(time)
	if time == 0 {
		h.Time = nan
	}
	w.next()
	w.next()
	if flags&flagExtra != 0 {
		for range w.next() | w.next()<<8 {
			w.next()
		}
	}
	if flags&flagName != 0 {
		h.Named, h.Name = true, w.text()
	}
	if flags&flagComment != 0 {
		w.text()
	}
	if flags&flagSum != 0 {
		sum := int(crc32.ChecksumIEEE(b[:w.at])) & 0xffff
		got := w.next() | w.next()<<8
		w.demand(got == sum)
	}
	if w.code != api.OK {
		return gzip.Head{}, 0, w.code
	}
	return h, w.at, api.OK
}

// allModel is promise 17.3, word by word.
func allModel(b []byte, most int, ratio float64) ([]gzip.Part, []byte, api.Errno) {
	if most < 0 || most > maxBytes {
		return nil, nil, api.ErrArg
	}
	var parts []gzip.Part
	var all []byte
	for at := 0; at == 0 || at < len(b); {
		h, n, code := readModel(b[at:])
		if code != api.OK {
			return nil, nil, api.ErrForm
		}
		at += n
		out, used, code := inflate.All(b[at:], false, usual, most-len(all))
		if code != api.OK {
			return nil, nil, code
		}
		product := ratio * float64(used)
		if float64(len(out)) > product {
			return nil, nil, api.ErrLimit
		}
		sum := crc32.ChecksumIEEE(out)
		tail := string(little(int(sum), 4)) + string(little(len(out), 4))
		if end := at + used + 8; end > len(b) || string(b[at+used:end]) != tail {
			return nil, nil, api.ErrForm
		}
		parts = append(parts, gzip.Part{Head: h, From: at, Used: used, Sum: sum, Size: len(out)})
		all = append(all, out...)
		at += used + 8
	}
	return parts, all, api.OK
}
