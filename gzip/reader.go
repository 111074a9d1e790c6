package gzip

import (
	"bytes"

	"stevedore/api"
	"stevedore/clock"
	"stevedore/crc"
	"stevedore/num"
)

// magic is what each member begins with: the format, and DEFLATE.
const magic = "\x1f\x8b\x08"

// The flags of a header. The lowest one only says that the bytes may be a text.
const (
	hasSum     = 1 << 1
	hasExtra   = 1 << 2
	hasName    = 1 << 3
	hasComment = 1 << 4
	reserved   = 7 << 5
)

// mostText is the number of bytes that a name or a comment has at most.
const mostText = 65535

// reader reads a header from front to back. It throws a fault at the first byte
// that may not stand there, and where bytes are missing.
type reader struct {
	b  []byte
	at int // how many bytes were read
}

// caught returns the error of what was thrown, OK if nothing was.
func caught(thrown any) api.Errno {
	switch fault := thrown.(type) {
	case nil:
		return api.OK
	case api.Fault:
		return fault.Code
	}
	panic(thrown) // no fault of the bytes but a mistake in this package
}

// fail gives up.
func (r *reader) fail(code api.Errno) { panic(api.Fault{Code: code, At: r.at}) }

// demand gives up unless what was read is well formed.
func (r *reader) demand(formed bool) {
	if !formed {
		r.fail(api.ErrForm)
	}
}

// head reads a header.
func (r *reader) head() Head {
	for _, c := range []byte(magic) {
		r.demand(r.number(1) == int(c))
	}
	flags := r.number(1)
	r.demand(flags&reserved == 0)
	h := Head{Time: clock.FromUnix(r.number(4))}
	r.skip(2) // how hard the packer tried, and its system
	if flags&hasExtra != 0 {
		r.skip(r.number(2))
	}
	if flags&hasName != 0 {
		h.Named, h.Name = true, string(r.text())
	}
	if flags&hasComment != 0 {
		r.text()
	}
	if flags&hasSum != 0 {
		sum := crc.Sum(r.b[:r.at])
		r.demand(r.number(2) == int(uint16(sum)))
	}
	return h
}

// number reads a number of n bytes.
func (r *reader) number(n int) int {
	v, code := num.Little(r.b, r.at, n)
	if code != api.OK {
		r.fail(code)
	}
	r.at += n
	return int(v)
}

// skip reads n bytes that mean nothing here.
func (r *reader) skip(n int) {
	if n > len(r.b)-r.at {
		r.fail(api.ErrShort)
	}
	r.at += n
}

// text reads bytes up to a byte 0, which isn't one of them.
func (r *reader) text() []byte {
	rest := r.b[r.at:]
	n := bytes.IndexByte(rest[:min(len(rest), mostText+1)], 0)
	if n < 0 {
		r.demand(len(rest) <= mostText)
		r.fail(api.ErrShort)
	}
	r.at += n + 1
	return rest[:n]
}
