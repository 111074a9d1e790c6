package deflate_test

import (
	"bytes"
	"compress/flate"
	"fmt"
	"io"
	"math"
	"math/rand/v2"
	"slices"
	"strings"
	"sync"
	"testing"

	"stevedore/api"
	"stevedore/deflate"
	"stevedore/inflate"
)

// What chapters 14 and 16 allow.
const (
	maxBytes   = 1 << 30
	full       = 65535 // the bytes of a full stored block
	group      = 16384
	farthest   = 32768
	farthest64 = 65536
)

var nan, inf, minusZero = math.NaN(), math.Inf(1), math.Copysign(0, -1)

// stores are efforts of level 0.
var stores = []float64{0, minusZero, 0.999, math.Nextafter(1, 0), -1, -6, -1 << 64, -inf, math.SmallestNonzeroFloat64}

// packs are efforts of all other levels.
var packs = []float64{1, 2, 3.5, 4, 5, 6, nan, 7.999, 8, 9, inf}

// noise returns n bytes that follow no short rule, the same ones every time.
func noise(n int, seed byte) []byte {
	b := make([]byte, n)
	rand.NewChaCha8([32]byte{16, seed}).Read(b)
	return b
}

// letters returns n bytes of the first kinds letters.
func letters(n, kinds int, seed byte) []byte {
	b := noise(n, seed)
	for i := range b {
		b[i] = 'a' + b[i]%byte(kinds)
	}
	return b
}

// woven returns n bytes with many matches, long and short, near and far.
func woven(n int, seed uint64) []byte {
	r := rand.New(rand.NewPCG(16, seed))
	b := []byte("woven")
	for len(b) < n {
		from := r.IntN(len(b))
		if r.IntN(2) == 0 {
			from = max(0, len(b)-1-r.IntN(100))
		}
		b = append(b, b[from:min(len(b), from+1+r.IntN(1<<r.IntN(12)))]...)
		if r.IntN(3) == 0 {
			b = append(b, byte(r.IntN(256)))
		}
	}
	return b[:n]
}

// apart returns noise that comes again behind so many bytes, twice.
func apart(n int) []byte {
	part := noise(min(n, 300), 1)
	b := append(slices.Clone(part), make([]byte, n-len(part))...)
	return append(append(b, b...), part...)
}

// lined returns bytes that are hard to compress, then easy, and so on.
func lined(n int) []byte {
	return slices.Concat(noise(n, 2), woven(n, 2), make([]byte, n), noise(n, 3), letters(n, 2, 4))
}

// unpacks asks whether a stream, and nothing behind it, decompresses to b, with
// matches that reach no farther than they may.
func unpacks(t *testing.T, what string, out, b []byte, wide bool) {
	t.Helper()
	size := farthest
	if wide {
		size = farthest64
	}
	back, used, code := inflate.All(out, wide, size, len(b))
	if code != api.OK || !bytes.Equal(back, b) {
		t.Fatalf("16.2: %s: %d bytes (%.40x) decompress to %d bytes (%.40x) and %d, not to %d (%.40x)", what, len(out), out, len(back), back, code, len(b), b)
	}
	if used != len(out) {
		t.Fatalf("16.1: %s: the stream has %d bytes of %d", what, used, len(out))
	}
	if wide {
		return
	}
	if back, err := io.ReadAll(flate.NewReader(bytes.NewReader(out))); !bytes.Equal(back, b) || err != nil {
		t.Fatalf("16.2: %s: %d bytes mean something else to others: %v", what, len(out), err)
	}
}

// stored are the stored blocks of b, the last one marked.
func stored(b []byte) []byte {
	var out []byte
	for len(b) > full {
		out = append(append(out, 0, 0xff, 0xff, 0, 0), b[:full]...)
		b = b[full:]
	}
	n := len(b)
	return append(append(out, 1, byte(n), byte(n>>8), ^byte(n), ^byte(n>>8)), b...)
}

// most is promise 16.1's definition of Most.
func most(n int) int {
	if n < 0 {
		return 0
	}
	n = min(n, maxBytes)
	size := n + 5*(n/full) + 8*(n/group)
	if n%full > 0 || n == 0 {
		size += 5
	}
	if n%group > 0 {
		size += 8
	}
	return size
}

// packed asks for the stream of b with an effort.
func packed(t *testing.T, b []byte, e float64, wide bool) []byte {
	t.Helper()
	what := fmt.Sprintf("All of %d bytes (%.20x), %v, %t", len(b), b, e, wide)
	before := bytes.Clone(b)
	out := deflate.All(b, e, wide)
	if !bytes.Equal(b, before) {
		t.Fatalf("16.1: %s changes them", what)
	}
	if e < 1 && !bytes.Equal(out, stored(b)) {
		t.Fatalf("16.1: %s is %.20x, not stored blocks", what, out)
	}
	if !(e < 1) && len(out) > most(len(b)) {
		t.Fatalf("16.1: %s is %d bytes, more than %d", what, len(out), most(len(b)))
	}
	unpacks(t, what, out, b, wide)
	return out
}

// every asks for the stream of b with some efforts, of both kinds.
func every(t *testing.T, b []byte, efforts ...float64) {
	t.Helper()
	for _, e := range efforts {
		packed(t, b, e, false)
		packed(t, b, e, true)
	}
}

func TestExamples(t *testing.T) {
	for _, wide := range []bool{false, true} {
		for _, b := range [][]byte{nil, {}} {
			if out := deflate.All(b, 0, wide); string(out) != "\x01\x00\x00\xff\xff" {
				t.Errorf("16.1: All of no bytes with effort 0 is %x", out)
			}
		}
	}
	for _, x := range [][2]int{{1, 14}, {16385, 16406}} {
		if n := deflate.Most(x[0]); n != x[1] {
			t.Errorf("16.1: Most(%d) is %d, not %d", x[0], n, x[1])
		}
	}
}

func TestMost(t *testing.T) {
	for _, x := range [][2]int{
		{0, 5}, {1, 14}, {16383, 16396}, {16384, 16397}, {16385, 16406}, {32768, 32789}, {32769, 32798},
		{65534, 65571}, {65535, 65572}, {65536, 65578}, {65537, 65587}, {131070, 131144}, {131071, 131150}, {131072, 131151}, {131073, 131160},
		{-1, 0}, {-16384, 0}, {-65535, 0}, {-maxBytes, 0}, {math.MinInt32, 0}, {math.MinInt + 1, 0}, {math.MinInt, 0},
		{maxBytes - 1, maxBytes - 1 + 5*16385 + 8*65536}, {maxBytes, maxBytes + 5*16385 + 8*65536},
	} {
		if n := deflate.Most(x[0]); n != x[1] {
			t.Errorf("16.1: Most(%d) is %d, not %d", x[0], n, x[1])
		}
	}
	for _, n := range []int{maxBytes + 1, maxBytes + full, 1 << 31, 1<<32 - 1, 1 << 32, 1<<32 + 1, 1 << 40, math.MaxInt - group, math.MaxInt - 1, math.MaxInt} {
		if got, want := deflate.Most(n), deflate.Most(maxBytes); got != want {
			t.Errorf("16.1: Most(%d) is %d, not %d", n, got, want)
		}
	}
	for n := -100; n < 5*full; n++ {
		if got, want := deflate.Most(n), most(n); got != want {
			t.Fatalf("16.1: Most(%d) is %d, not %d", n, got, want)
		}
	}
}

func TestStored(t *testing.T) {
	for _, n := range []int{0, 1, 2, 255, 256, group, full - 1, full, full + 1, 2 * full, 2*full + 1, 4 * full, 4*full + 1, 600000} {
		every(t, noise(n, 5), stores...)
		every(t, make([]byte, n), stores...)
	}
}

// TestLevels is of efforts that request the same level.
func TestLevels(t *testing.T) {
	b := lined(5000)
	for _, x := range [][2]float64{
		{nan, 6}, {-nan, 6}, {math.Float64frombits(0x7FF0000000000001), 6}, {minusZero, 0}, {-inf, 0}, {0.5, 0},
		{inf, 9}, {1 << 64, 9}, {9.5, 9}, {math.MaxFloat64, 9}, {math.Nextafter(9, 0), 8}, {5.99, 5}, {1.5, 1},
	} {
		for _, wide := range []bool{false, true} {
			if !bytes.Equal(deflate.All(b, x[0], wide), deflate.All(b, x[1], wide)) {
				t.Errorf("16.1: the stream with effort %v, %t, is not that with %v", x[0], wide, x[1])
			}
		}
	}
}

// TestShort is of all short inputs of two kinds of bytes, and of one kind.
func TestShort(t *testing.T) {
	every(t, nil, packs...)
	every(t, []byte{}, packs...)
	for c := range 256 {
		every(t, []byte{byte(c)}, 1, 6, 9)
	}
	for n := 1; n <= 8; n++ {
		for bits := range 1 << n {
			b := make([]byte, n)
			for i := range b {
				b[i] = "a\xff"[bits>>i&1]
			}
			every(t, b, 1, 4, 9)
		}
	}
	for n := range 600 {
		every(t, bytes.Repeat([]byte{byte(n)}, n), 1, nan)
	}
}

func TestAll(t *testing.T) {
	for _, b := range [][]byte{
		[]byte("stevedore"),
		[]byte(strings.Repeat("a box and a box and another box; ", 300)),
		noise(20000, 6),
		letters(20000, 2, 7),
		letters(20000, 40, 8),
		woven(70000, 9),
		lined(30000),
		slices.Concat(noise(100, 10), make([]byte, 70000), noise(100, 10)),
	} {
		every(t, b, packs...)
		every(t, b, stores...)
	}
}

// TestLong has inputs about sizes at which blocks might be divided.
func TestLong(t *testing.T) {
	t.Parallel()
	for _, n := range []int{group, farthest, full, farthest64, 2 * full, 1 << 17, 4 * full, 1 << 18, 8 * full, 1 << 19, 16 * full, 1 << 20} {
		for _, more := range []int{-1, 0, 1} {
			every(t, woven(n+more, 11), 1)
		}
		every(t, letters(n, 3, 12), 6)
		every(t, make([]byte, n), 9)
		every(t, noise(n, 13), 3)
	}
	every(t, lined(300000), 2, 4, inf)
	every(t, woven(3<<20, 14), nan)
}

// TestFar has bytes that come again as far back as a match may reach, or just
// beyond.
func TestFar(t *testing.T) {
	for _, n := range []int{1, 2, 3, 258, farthest - 3, farthest - 1, farthest, farthest + 1, farthest64 - 3, farthest64 - 1, farthest64, farthest64 + 1, 4 * full} {
		every(t, apart(n), packs...)
	}
	b := bytes.Repeat(noise(40000, 17), 2)
	for _, e := range packs {
		if out := packed(t, b, e, true); len(out) > 45000 {
			t.Errorf("16.1: bytes that come again at a distance of 40000, %v, take %d bytes", e, len(out))
		}
	}
}

// TestMany has random inputs of random sizes.
func TestMany(t *testing.T) {
	r := rand.New(rand.NewPCG(16, 16))
	for i := range 400 {
		n := r.IntN(1 << (1 + r.IntN(15)))
		b := woven(n, r.Uint64())
		switch r.IntN(3) {
		case 0:
			b = letters(n, 1+r.IntN(255), byte(i))
		case 1:
			b = append(b, noise(r.IntN(1000), byte(i))...)
		}
		every(t, b, math.Float64frombits(r.Uint64()), r.Float64()*12)
	}
}

// TestHard has bytes that can't be compressed, or for which no code is good.
func TestHard(t *testing.T) {
	t.Parallel()
	for n := range 400 {
		every(t, noise(n, byte(n)), 1+float64(n%9))
	}
	var all []byte
	for c := range 256 {
		all = append(all, byte(c))
	}
	for n := 0; n < 300; n += 7 {
		every(t, bytes.Repeat(all, 2)[n/2:n], 6)
		b := slices.Concat(noise(n, byte(n)), make([]byte, n), noise(n, byte(n+1)))
		every(t, b, 1, 9)
	}
	for _, n := range []int{group - 1, group + 1, full - 1, full + 1, 4*full - 1, 4*full + 1, 5*full + 1} {
		every(t, noise(n, 15), 1, nan, 9)
	}
}

// TestEqualBytes is of bytes that are easy to compress, whatever the level.
func TestEqualBytes(t *testing.T) {
	for c := range 256 {
		b := bytes.Repeat([]byte{byte(c)}, 1000)
		for _, e := range packs {
			for _, wide := range []bool{false, true} {
				if out := packed(t, b, e, wide); len(out) >= 100 {
					t.Errorf("16.2: a thousand bytes %d, %v, %t, are compressed to %d bytes", c, e, wide, len(out))
				}
			}
		}
	}
	for _, n := range []int{1000, 10000, 300000} {
		b := bytes.Repeat([]byte("stevedore\n"), n/10)
		for _, e := range packs {
			if out := packed(t, b, e, false); len(out) >= n/10 {
				t.Errorf("16.2: %d bytes, %v, are compressed to %d bytes", n, e, len(out))
			}
		}
	}
}

// TestSame asks for the same several times, at the same time, and changes what
// it gets.
func TestSame(t *testing.T) {
	b := lined(70000)
	for _, e := range []float64{0, 1, nan, 9} {
		var all [6][]byte
		var workers sync.WaitGroup
		for i := range all {
			workers.Go(func() { all[i] = deflate.All(b, e, i >= 3) })
		}
		workers.Wait()
		for i, out := range all {
			if !bytes.Equal(out, all[i/3*3]) {
				t.Fatalf("16.1: equal arguments, effort %v, give streams that differ", e)
			}
		}
		want := bytes.Clone(all[0])
		clear(all[0])
		if !bytes.Equal(all[1], want) || !bytes.Equal(deflate.All(b, e, false), want) {
			t.Fatalf("16.1: a change of a stream, effort %v, changes another one", e)
		}
		mine := bytes.Clone(b)
		out := deflate.All(mine, e, false)
		clear(mine)
		if !bytes.Equal(out, want) {
			t.Fatalf("16.1: a change of the bytes changes their stream, effort %v", e)
		}
	}
}
