// Package crc computes CRC-32 checksums: see DOC.md, chapter 1.
package crc

// The register of a checksum is a polynomial of degree below 32 over the bits,
// modulo the polynomial of CRC-32: its highest bit is the coefficient of x^0,
// its lowest bit that of x^31.
const (
	poly  = 0xEDB88320
	one   = 1 << 31  // x^0
	aByte = one >> 8 // x^8: what a byte that follows multiplies by
)

// many is the number of bytes from which on the tables repay being built.
const many = 200

// Sum returns the CRC-32 of b.
func Sum(b []byte) uint32 { return Update(0, b) }

// Update returns the CRC-32 of some bytes followed by b, where c is the CRC-32
// of the preceding bytes.
func Update(c uint32, b []byte) uint32 {
	if len(b) < many {
		return ^bitByBit(^c, b)
	}
	return ^eightAtOnce(^c, b)
}

// Slices returns the CRC-32 of b; it processes eight bytes at a time.
func Slices(b []byte) uint32 { return ^eightAtOnce(^uint32(0), b) }

// Combine returns the CRC-32 of two byte strings, one after the other, where a
// and b are their checksums and n is the length of the second one.
func Combine(a, b uint32, n int) uint32 {
	if n < 0 {
		return a
	}
	return takeZeros(a, n) ^ b
}

// step multiplies r by x.
func step(r uint32) uint32 {
	if r&1 == 1 {
		return r>>1 ^ poly
	}
	return r >> 1
}

// bitByBit takes the bytes of b into the register r as the definition says.
func bitByBit(r uint32, b []byte) uint32 {
	for _, v := range b {
		r ^= uint32(v)
		for range 8 {
			r = step(r)
		}
	}
	return r
}

// eightAtOnce takes the bytes of b into the register r, eight at a time: each
// of them adds its own share, which hangs only on how many bytes follow it.
func eightAtOnce(r uint32, b []byte) uint32 {
	var t [8][256]uint32
	fill(&t)
	for ; len(b) >= 8; b = b[8:] {
		r ^= uint32(b[0]) | uint32(b[1])<<8 | uint32(b[2])<<16 | uint32(b[3])<<24
		r = t[7][byte(r)] ^ t[6][byte(r>>8)] ^ t[5][byte(r>>16)] ^ t[4][byte(r>>24)] ^
			t[3][b[4]] ^ t[2][b[5]] ^ t[1][b[6]] ^ t[0][b[7]]
	}
	for _, v := range b {
		r = r>>8 ^ t[0][byte(r)^v]
	}
	return r
}

// fill makes t[k][v] the register that the byte v leaves when k bytes 0 follow
// it.
func fill(t *[8][256]uint32) {
	r := uint32(1)
	for bit := 128; bit > 0; bit /= 2 {
		r = step(r)
		for v := 0; v < 256; v += 2 * bit {
			t[0][v+bit] = t[0][v] ^ r // a byte's share is the sum of its bits' shares
		}
	}
	for k := range 7 {
		for v, r := range t[k] {
			t[k+1][v] = r>>8 ^ t[0][byte(r)]
		}
	}
}

// takeZeros takes n bytes 0 into the register r: it multiplies r by x^(8n). It
// squares its way up to that power, because n may be any length.
func takeZeros(r uint32, n int) uint32 {
	for p := uint32(aByte); n > 0; n /= 2 {
		if n%2 == 1 {
			r = times(r, p)
		}
		p = times(p, p)
	}
	return r
}

// times multiplies two polynomials.
func times(a, b uint32) uint32 {
	var sum uint32
	for bit := uint32(one); bit > 0; bit /= 2 {
		if a&bit != 0 {
			sum ^= b
		}
		b = step(b)
	}
	return sum
}
