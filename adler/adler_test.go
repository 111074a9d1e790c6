package adler_test

import (
	"bytes"
	"hash/adler32"
	"math"
	"math/rand/v2"
	"slices"
	"testing"

	"stevedore/adler"
)

// prime is the number that the document takes both halves modulo.
const prime = 65521

// odd are checksums with halves at both ends of their range, below, at and
// above the prime.
var odd = []uint32{
	0, 1, 5, 0x11E60398,
	prime - 1, prime, 0xFFFF, 1 << 16, 1<<16 | 1,
	(prime - 1) << 16, (prime-1)<<16 | (prime - 1), prime<<16 | prime, prime << 16,
	0xFFFF0000, 0xFFFF0001, 0xFFFFFFFF, 0x80008000,
}

// lengths are numbers of bytes up to well beyond those at which sums of 32 bits
// outgrow themselves unless they are reduced on the way.
var lengths = []int{
	0, 1, 2, 3, 15, 16, 17, 255, 256, 257, 3854, 3855, 3856, 3857,
	5550, 5551, 5552, 5553, 5554, 5555, 5803, 5804, 11103, 11104, 11105,
	65520, 65521, 65522, 1<<17 + 3,
}

// defined is promise 2.1's definition, word by word.
func defined(c uint32, b []byte) uint32 {
	x, y := uint64(c%65536)%prime, uint64(c/65536)%prime
	for _, v := range b {
		x = (x + uint64(v)) % prime
		y = (y + x) % prime
	}
	return uint32(y*65536 + x)
}

// mixed returns n bytes that follow no short rule, the same ones every time.
func mixed(n int, seed byte) []byte {
	b := make([]byte, n)
	rand.NewChaCha8([32]byte{seed}).Read(b)
	return b
}

// samples returns byte strings of n bytes, the least and the greatest ones
// among them.
func samples(n int) [][]byte {
	return [][]byte{make([]byte, n), bytes.Repeat([]byte{255}, n), mixed(n, 1)}
}

func TestExamples(t *testing.T) {
	for _, x := range []struct {
		text string
		want uint32
	}{{"Wikipedia", 0x11E60398}, {"", 1}, {"\x00", 0x00010001}, {"a", 0x00620062}} {
		if got := adler.Sum([]byte(x.text)); got != x.want {
			t.Errorf("2.1: Sum of %q is %08X, not %08X", x.text, got, x.want)
		}
		if got := adler.Update(1, []byte(x.text)); got != x.want {
			t.Errorf("2.1: Update(1, %q) is %08X, not %08X", x.text, got, x.want)
		}
	}
	if adler.Sum(nil) != 1 || adler.Sum([]byte{}) != 1 {
		t.Error("2.1: Sum of no bytes isn't 1")
	}
	if got := adler.Update(0xFFFFFFFF, nil); got != 14*65536+14 {
		t.Errorf("2.1: Update(FFFFFFFF, no bytes) is %08X", got)
	}
}

func TestSum(t *testing.T) {
	for _, n := range lengths {
		for i, b := range samples(n) {
			want := defined(1, b)
			if want != adler32.Checksum(b) {
				t.Fatalf("the test's own definition is wrong for %d bytes", n)
			}
			if got := adler.Sum(b); got != want {
				t.Errorf("2.1: sample %d of %d bytes: %08X, not %08X", i, n, got, want)
			}
		}
	}
	for n := range 700 {
		if b := mixed(n, 2); adler.Sum(b) != defined(1, b) {
			t.Errorf("2.1: %d bytes", n)
		}
	}
}

func TestSumLong(t *testing.T) {
	for i, b := range samples(1<<23 + 9) {
		if got, want := adler.Sum(b), adler32.Checksum(b); got != want {
			t.Errorf("2.1: long sample %d: %08X, not %08X", i, got, want)
		}
	}
}

func TestUpdateFromAnyChecksum(t *testing.T) {
	for _, c := range odd {
		for _, n := range lengths {
			for i, b := range samples(n) {
				if got, want := adler.Update(c, b), defined(c, b); got != want {
					t.Errorf("2.1: Update(%08X, sample %d of %d bytes) is %08X, not %08X", c, i, n, got, want)
				}
			}
		}
	}
}

func TestHalvesAreReduced(t *testing.T) {
	for _, half := range []uint32{0, 1, prime - 1, prime, prime + 1, 0xFFFF} {
		for _, other := range []uint32{0, 1, prime - 1, prime, prime + 1, 0xFFFF} {
			want := half%prime*65536 + other%prime
			if got := adler.Update(half<<16|other, nil); got != want {
				t.Errorf("2.1: Update(%04X%04X, no bytes) is %08X, not %08X", half, other, got, want)
			}
		}
	}
}

func TestArgumentsAreLeft(t *testing.T) {
	b := mixed(20000, 3)
	old := slices.Clone(b)
	first := adler.Sum(b)
	adler.Update(7, b)
	if !slices.Equal(b, old) || adler.Sum(b) != first {
		t.Error("2.1: the bytes or the answers changed")
	}
}

func TestCombine(t *testing.T) {
	for _, n := range []int{0, 1, 2, 9, 300} {
		for i, b := range samples(n) {
			want := defined(1, b)
			for cut := range n + 1 {
				got := adler.Combine(adler.Sum(b[:cut]), adler.Sum(b[cut:]), n-cut)
				if got != want {
					t.Errorf("2.2: sample %d of %d bytes cut at %d: %08X, not %08X", i, n, cut, got, want)
				}
			}
		}
	}
}

func TestCombineLong(t *testing.T) {
	first := []byte("a first part")
	for _, n := range lengths {
		for i, b := range samples(n) {
			want := adler32.Checksum(append(slices.Clone(first), b...))
			if got := adler.Combine(adler.Sum(first), adler.Sum(b), n); got != want {
				t.Errorf("2.2: sample %d of %d bytes behind others: %08X, not %08X", i, n, got, want)
			}
			want = adler32.Checksum(append(slices.Clone(b), first...))
			if got := adler.Combine(adler.Sum(b), adler.Sum(first), len(first)); got != want {
				t.Errorf("2.2: sample %d of %d bytes ahead of others: %08X, not %08X", i, n, got, want)
			}
		}
	}
}

// What a first part has left behind may be any checksum, as for Update.
func TestCombineAnyFirst(t *testing.T) {
	for _, a := range odd {
		for _, n := range lengths {
			for i, b := range samples(n) {
				if got, want := adler.Combine(a, adler.Sum(b), n), defined(a, b); got != want {
					t.Errorf("2.2: %08X and sample %d of %d bytes: %08X, not %08X", a, i, n, got, want)
				}
			}
		}
	}
}

func TestCombineReduces(t *testing.T) {
	for _, a := range odd {
		for _, b := range odd {
			for _, n := range []int{0, 1, 2, prime - 1, prime, prime + 1, math.MaxInt32, math.MaxInt} {
				want := adler.Combine(defined(a, nil), defined(b, nil), n)
				if got := adler.Combine(a, b, n); got != want {
					t.Errorf("2.2: Combine(%08X, %08X, %d) is %08X, not %08X", a, b, n, got, want)
				}
				if want>>16 >= prime || want&0xFFFF >= prime {
					t.Errorf("2.2: Combine(%08X, %08X, %d) has a half that isn't below %d", a, b, n, prime)
				}
			}
		}
	}
}

func TestCombineBelowZero(t *testing.T) {
	for _, n := range []int{-1, -2, -prime, math.MinInt} {
		for _, a := range odd {
			if got := adler.Combine(a, 6, n); got != a {
				t.Errorf("2.2: Combine(%08X, 6, %d) is %08X", a, n, got)
			}
		}
	}
}

// Three parts may be combined from the left or from the right; so lengths can
// be tried of which no test can hold the bytes.
func TestCombineHuge(t *testing.T) {
	lengths := []int{0, 3, prime - 1, prime, 1 << 20, math.MaxInt32, 1 << 40, 1<<61 + 12345}
	for _, a := range odd {
		b, c := uint32(0x11E60398), uint32(0xABCD1234)
		for _, n := range lengths {
			for _, m := range lengths {
				left := adler.Combine(adler.Combine(a, b, n), c, m)
				right := adler.Combine(a, adler.Combine(b, c, m), n+m)
				if left != right {
					t.Errorf("2.2: %08X, then %d and %d bytes: %08X and %08X", a, n, m, left, right)
				}
			}
		}
	}
}

func TestUpdateContinues(t *testing.T) {
	for _, n := range []int{0, 1, 9, 250} {
		b := mixed(n, 4)
		for cut := range n + 1 {
			if adler.Update(adler.Sum(b[:cut]), b[cut:]) != defined(1, b) {
				t.Errorf("2.3: %d bytes cut at %d", n, cut)
			}
		}
	}
	for _, b := range samples(20000) {
		for cut := 0; cut <= len(b); cut += 37 {
			if adler.Update(adler.Sum(b[:cut]), b[cut:]) != adler.Sum(b) {
				t.Errorf("2.3: %d bytes cut at %d", len(b), cut)
			}
		}
	}
}

func TestUpdateByteByByte(t *testing.T) {
	b := mixed(12000, 5)
	c := uint32(1)
	for i := range b {
		c = adler.Update(c, b[i:i+1])
	}
	if c != adler.Sum(b) || c != defined(1, b) {
		t.Errorf("2.3: byte by byte: %08X, at once: %08X", c, adler.Sum(b))
	}
}

func TestEveryByteChanged(t *testing.T) {
	for _, n := range []int{1, 2, 40} {
		for _, b := range samples(n) {
			sum := adler.Sum(b)
			for i, old := range b {
				for v := range 256 {
					b[i] = byte(v)
					if (adler.Sum(b) == sum) != (b[i] == old) {
						t.Fatalf("2.3: byte %d of %d from %02X to %02X", i, n, old, v)
					}
				}
				b[i] = old
			}
		}
	}
}

func TestOneByteOfMany(t *testing.T) {
	for _, b := range samples(70000) {
		sum := adler.Sum(b)
		for i := 0; i < len(b); i += 997 {
			for _, turned := range []byte{1, 0x80, 0xFF} {
				b[i] ^= turned
				if adler.Sum(b) == sum {
					t.Fatalf("2.3: byte %d of %d", i, len(b))
				}
				b[i] ^= turned
			}
		}
	}
}
