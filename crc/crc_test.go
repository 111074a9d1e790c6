package crc_test

import (
	"bytes"
	"hash/crc32"
	"math"
	"slices"
	"testing"

	"stevedore/crc"
)

// longest is more than any number of bytes at which the checksums change the
// way they are worked out.
const longest = 700

// defined is promise 1.1's definition, word by word.
func defined(c uint32, b []byte) uint32 {
	r := c ^ 0xFFFFFFFF
	for _, v := range b {
		r ^= uint32(v)
		for range 8 {
			out := r & 1
			r >>= 1
			if out == 1 {
				r ^= 0xEDB88320
			}
		}
	}
	return r ^ 0xFFFFFFFF
}

// mixed returns n bytes that follow no short rule, the same ones every time.
func mixed(n int, seed uint32) []byte {
	b := make([]byte, n)
	for i := range b {
		seed = seed*1664525 + 1013904223
		b[i] = byte(seed >> 24)
	}
	return b
}

// samples returns byte strings of all lengths up to longest, and long ones.
func samples() [][]byte {
	l := [][]byte{nil, {}, []byte("123456789"), {0}, {255}, []byte("\xff\xff\xff\xff")}
	l = append(l, make([]byte, longest), bytes.Repeat([]byte{255}, longest))
	for n := range longest {
		l = append(l, mixed(n, uint32(n)))
	}
	for _, n := range []int{1<<16 - 1, 1 << 16, 1<<20 + 5} {
		l = append(l, mixed(n, 9))
	}
	return l
}

func TestExamples(t *testing.T) {
	for _, x := range []struct {
		text string
		want uint32
	}{{"123456789", 0xCBF43926}, {"", 0}, {"\x00", 0xD202EF8D}} {
		b := []byte(x.text)
		if crc.Sum(b) != x.want || crc.Slices(b) != x.want || crc.Update(0, b) != x.want {
			t.Errorf("1.1: %q: not %08X", x.text, x.want)
		}
	}
}

func TestDefinition(t *testing.T) {
	for _, b := range samples() {
		want := defined(0, b)
		if want != crc32.ChecksumIEEE(b) {
			t.Fatalf("the test's own definition is wrong for %d bytes", len(b))
		}
		if got := crc.Sum(b); got != want {
			t.Errorf("1.1: Sum of %d bytes is %08X, not %08X", len(b), got, want)
		}
		if got := crc.Slices(b); got != want {
			t.Errorf("1.1: Slices of %d bytes is %08X, not %08X", len(b), got, want)
		}
	}
}

func TestEachByte(t *testing.T) {
	for v := range 256 {
		for _, n := range []int{1, 8, 9, 64, longest} {
			b := bytes.Repeat([]byte{byte(v)}, n)
			want := defined(0, b)
			if crc.Sum(b) != want || crc.Slices(b) != want {
				t.Errorf("1.1: %d times the byte %02X", n, v)
			}
		}
	}
}

func TestUpdateFromAnyChecksum(t *testing.T) {
	for _, c := range []uint32{0, 1, 0x80000000, 0xFFFFFFFF, 0xEDB88320, 0xCBF43926} {
		for n := range longest {
			b := mixed(n, c)
			if got, want := crc.Update(c, b), defined(c, b); got != want {
				t.Errorf("1.1: Update(%08X, %d bytes) is %08X, not %08X", c, n, got, want)
			}
		}
		if crc.Update(c, nil) != c {
			t.Errorf("1.1: Update(%08X, no bytes) isn't the same checksum", c)
		}
	}
}

func TestUnaligned(t *testing.T) {
	b := mixed(longest, 3)
	for from := range 20 {
		part := b[from:]
		if want := defined(0, part); crc.Slices(part) != want || crc.Sum(part) != want {
			t.Errorf("1.1: from byte %d on", from)
		}
	}
}

func TestArgumentsAreLeft(t *testing.T) {
	for _, n := range []int{9, longest} {
		b := mixed(n, 5)
		old := slices.Clone(b)
		first := crc.Sum(b)
		crc.Slices(b)
		crc.Update(7, b)
		if !slices.Equal(b, old) || crc.Sum(b) != first || crc.Slices(b) != first {
			t.Errorf("1.1: %d bytes: the bytes or the answers changed", n)
		}
	}
}

func TestCombine(t *testing.T) {
	for _, n := range []int{0, 1, 2, 7, 8, 9, 255, longest} {
		b := mixed(n, 11)
		for cut := range n + 1 {
			first, second := crc.Sum(b[:cut]), crc.Sum(b[cut:])
			if got, want := crc.Combine(first, second, n-cut), defined(0, b); got != want {
				t.Errorf("1.2: %d bytes cut at %d: %08X, not %08X", n, cut, got, want)
			}
		}
	}
}

func TestCombineLong(t *testing.T) {
	a := []byte("a first part")
	for _, n := range []int{1<<16 - 1, 1 << 16, 1<<20 + 7, 1 << 22} {
		b := mixed(n, 13)
		want := crc32.Update(crc32.ChecksumIEEE(a), crc32.IEEETable, b)
		if got := crc.Combine(crc32.ChecksumIEEE(a), crc32.ChecksumIEEE(b), n); got != want {
			t.Errorf("1.2: a second part of %d bytes: %08X, not %08X", n, got, want)
		}
	}
}

func TestCombineBelowZero(t *testing.T) {
	for _, n := range []int{-1, -2, -8, math.MinInt} {
		for _, a := range []uint32{0, 5, 0xFFFFFFFF} {
			if got := crc.Combine(a, 6, n); got != a {
				t.Errorf("1.2: Combine(%08X, 6, %d) is %08X", a, n, got)
			}
		}
	}
}

func TestCombineWithNothing(t *testing.T) {
	for _, a := range []uint32{0, 5, 0xCBF43926, 0xFFFFFFFF} {
		if crc.Combine(a, 0, 0) != a {
			t.Errorf("1.2: %08X followed by no bytes", a)
		}
		if crc.Combine(0, a, 4) != a {
			t.Errorf("1.2: no bytes followed by four with %08X", a)
		}
	}
}

// Three parts may be combined from the left or from the right; so lengths can
// be tried of which no test can hold the bytes.
func TestCombineHuge(t *testing.T) {
	lengths := []int{0, 3, 1 << 20, math.MaxInt32, 1 << 40, 1<<61 + 12345}
	a, b, c := uint32(0xCBF43926), uint32(0xD202EF8D), uint32(0x12345678)
	for _, n := range lengths {
		for _, m := range lengths {
			left := crc.Combine(crc.Combine(a, b, n), c, m)
			right := crc.Combine(a, crc.Combine(b, c, m), n+m)
			if left != right {
				t.Errorf("1.2: %d and %d bytes: %08X and %08X", n, m, left, right)
			}
		}
	}
	crc.Combine(a, b, math.MaxInt)
}

func TestUpdateContinues(t *testing.T) {
	for _, n := range []int{0, 1, 9, 250, longest} {
		b := mixed(n, 17)
		want := defined(0, b)
		for cut := range n + 1 {
			if crc.Update(crc.Sum(b[:cut]), b[cut:]) != want || crc.Update(crc.Slices(b[:cut]), b[cut:]) != want {
				t.Errorf("1.3: %d bytes cut at %d", n, cut)
			}
		}
	}
}

func TestUpdateByteByByte(t *testing.T) {
	b := mixed(longest, 19)
	var c uint32
	for i := range b {
		c = crc.Update(c, b[i:i+1])
		if c != defined(0, b[:i+1]) {
			t.Fatalf("1.3: byte by byte, at byte %d", i)
		}
	}
}

// turn inverts the bits of b that the bits of burst name, from bit at on.
func turn(b []byte, at int, burst uint32) {
	for i := range 32 {
		if burst>>i&1 == 1 {
			b[(at+i)/8] ^= 1 << ((at + i) % 8)
		}
	}
}

func TestBursts(t *testing.T) {
	bursts := []uint32{1, 3, 0x80000001, 0xFFFFFFFF, 0xEDB88320, 0xDB710641, 0x82608EDB, 0x04C11DB7, 0x10001}
	seed := uint32(1)
	for range 40 {
		seed = seed*1664525 + 1013904223
		bursts = append(bursts, seed)
	}
	for _, n := range []int{4, 5, 11, 300} {
		b := mixed(n, 23)
		sum := crc.Sum(b)
		for at := range 8*n - 31 {
			for _, burst := range bursts {
				turn(b, at, burst)
				if crc.Sum(b) == sum || crc.Slices(b) == sum {
					t.Fatalf("1.3: %d bytes, bits %08X turned from bit %d on", n, burst, at)
				}
				turn(b, at, burst)
			}
		}
	}
}

func TestEveryBit(t *testing.T) {
	b := mixed(longest, 29)
	sum := crc.Sum(b)
	for at := range 8 * len(b) {
		b[at/8] ^= 1 << (at % 8)
		if crc.Sum(b) == sum || crc.Slices(b) == sum || crc.Update(0, b) == sum {
			t.Fatalf("1.3: bit %d turned", at)
		}
		b[at/8] ^= 1 << (at % 8)
	}
}
