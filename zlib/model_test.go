package zlib_test

import (
	"hash/adler32"
	"math"
	"math/rand/v2"

	"stevedore/api"
	"stevedore/inflate"
)

// maxBytes is the most that All may be asked for.
const maxBytes = 1 << 30

var nan, inf, minusZero = math.NaN(), math.Inf(1), math.Copysign(0, -1)

// source returns random numbers, the same ones every time.
func source(seed uint64) *rand.Rand { return rand.New(rand.NewPCG(seed, 18)) }

// heads are the two-byte headers that are well formed, found by counting up the
// multiples of 31, each with the size of its window.
func heads() map[[2]byte]int {
	sizes := map[[2]byte]int{}
	for n := 0; n < 1<<16; n += 31 {
		first, second := n/256, n%256
		if first%16 == 8 && first < 0x80 && second/32%2 == 0 {
			sizes[[2]byte{byte(first), byte(second)}] = 256 << (first / 16)
		}
	}
	return sizes
}

// allHeads are made once: the models ask for them often.
var allHeads = heads()

// readModel is promise 18.1.
func readModel(b []byte) (int, api.Errno) {
	if len(b) < 2 {
		return 0, api.ErrShort
	}
	if size := allHeads[[2]byte(b[:2])]; size > 0 {
		return size, api.OK
	}
	return 0, api.ErrForm
}

// sumOf returns the checksum of some bytes, as it stands behind a stream.
func sumOf(data []byte) string {
	sum := adler32.Checksum(data)
	return string([]byte{byte(sum >> 24), byte(sum >> 16), byte(sum >> 8), byte(sum)})
}

// allModel is promise 18.2, word by word.
func allModel(b []byte, most int, ratio float64) ([]byte, int, api.Errno) {
	if most < 0 || most > maxBytes {
		return nil, 0, api.ErrArg
	}
	size, code := readModel(b)
	if code != api.OK {
		return nil, 0, api.ErrForm
	}
	out, used, code := inflate.All(b[2:], false, size, most)
	if code != api.OK {
		return nil, 0, code
	}
	product := ratio * float64(used)
	if float64(len(out)) > product {
		return nil, 0, api.ErrLimit
	}
	if string(b[2+used:]) != sumOf(out) {
		return nil, 0, api.ErrForm
	}
	return out, used, api.OK
}
