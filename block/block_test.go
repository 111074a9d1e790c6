package block_test

import (
	"math"
	"math/rand/v2"
	"slices"
	"testing"

	"stevedore/api"
	"stevedore/bits"
	"stevedore/block"
	"stevedore/inflate"
)

// What chapters 11 and 14 allow.
const (
	shortest   = 3
	longest    = 258
	longest64  = 65538
	farthest   = 32768
	farthest64 = 65536
	maxBytes   = 1 << 30
	full       = 65535 // the bytes of a full stored block
)

// extremes are numbers that no match may have, as Len or as Dist.
var extremes = []int{
	math.MinInt, math.MinInt + 1, -1 << 32, 3 - 1<<32, math.MinInt32, -longest64, -longest, -3, -1,
	longest64 + 1, 1 << 17, math.MaxInt32, 1 << 32, 1<<32 + 1, 1<<32 + 3, 1<<40 + 3, math.MaxInt - 1, math.MaxInt,
}

// source returns random numbers, the same ones every time.
func source(seed uint64) *rand.Rand { return rand.New(rand.NewPCG(seed, 14)) }

// literals returns a token for each byte.
func literals(b string) []api.Token {
	var l []api.Token
	for i := range len(b) {
		l = append(l, api.Token{Byte: b[i]})
	}
	return l
}

// match returns a token that is a match.
func match(n, dist int) api.Token { return api.Token{Len: n, Dist: dist} }

// greatest returns what a match may have at most.
func greatest(wide bool) (length, dist int) {
	if wide {
		return longest64, farthest64
	}
	return longest, farthest
}

// invalid returns tokens that aren't valid.
func invalid(wide bool) []api.Token {
	length, dist := greatest(wide)
	l := []api.Token{
		match(1, 0), match(1, 1), match(2, 1), match(3, 0), match(0, 1), match(0, -1), match(-1, 1), match(3, -1),
		{Len: 3, Dist: 1, Byte: 1}, {Len: 1, Byte: 'a'}, {Dist: 1, Byte: 'a'},
		match(length+1, 1), match(3, dist+1),
	}
	for _, n := range extremes {
		l = append(l, match(n, 1), match(3, n), match(n, n))
	}
	return l
}

// found returns the smallest symbol that represents n by Base or by Far, the
// number of its extra bits, and their value.
func found(n int, wide bool, by func(int, bool) (int, int, bool)) (int, int, int) {
	for symbol := range 300 {
		if least, extra, ok := by(symbol, wide); ok && least <= n && n < least+1<<extra {
			return symbol, extra, n - least
		}
	}
	return -1, 0, 0
}

func TestExamples(t *testing.T) {
	for _, x := range []struct {
		n                    int
		wide                 bool
		symbol, extra, value int
	}{
		{11, false, 265, 1, 0}, {258, false, 285, 0, 0}, {258, true, 284, 5, 31}, {2, true, -1, 0, 0},
		{257, false, 284, 5, 30}, {259, true, 285, 16, 256}, {65538, true, 285, 16, 65535}, {259, false, -1, 0, 0},
		{3, true, 257, 0, 0},
	} {
		if symbol, extra, value := block.Symbol(x.n, x.wide); symbol != x.symbol || extra != x.extra || value != x.value {
			t.Errorf("14.1: Symbol(%d, %t) is %d, %d, %d", x.n, x.wide, symbol, extra, value)
		}
	}
	for _, x := range []struct {
		dist                 int
		wide                 bool
		symbol, extra, value int
	}{
		{32769, false, -1, 0, 0}, {32769, true, 30, 14, 0}, {65536, true, 31, 14, 16383}, {32768, false, 29, 13, 8191},
		{1, false, 0, 0, 0}, {8, false, 5, 1, 1}, {0, true, -1, 0, 0},
	} {
		if symbol, extra, value := block.Reach(x.dist, x.wide); symbol != x.symbol || extra != x.extra || value != x.value {
			t.Errorf("14.1: Reach(%d, %t) is %d, %d, %d", x.dist, x.wide, symbol, extra, value)
		}
	}
	if n := block.Fixed(nil, false); n != 10 {
		t.Errorf("14.2: Fixed of no tokens is %d", n)
	}
	if n := block.Fixed([]api.Token{match(1, 0)}, false); n != -1 {
		t.Errorf("14.2: Fixed of {1, 0} is %d", n)
	}
	w := bits.NewWriter()
	if block.Store(w, nil, false); string(w.Bytes()) != "\x00\x00\x00\xff\xff" {
		t.Errorf("14.3: Store of no bytes writes %x", w.Bytes())
	}
	if code := block.Write(bits.NewWriter(), []api.Token{match(3, 1)}, false, false); code != api.ErrArg {
		t.Errorf("14.3: Write of {3, 1} is %d", code)
	}
}

func TestSymbol(t *testing.T) {
	for _, wide := range []bool{false, true} {
		length, _ := greatest(wide)
		for n := -300; n < 2*longest64; n++ {
			symbol, extra, value := -1, 0, 0
			switch {
			case n == longest && !wide:
				symbol = 285
			case shortest <= n && n <= length:
				symbol, extra, value = found(n, wide, inflate.Base)
			}
			if s, e, v := block.Symbol(n, wide); s != symbol || e != extra || v != value {
				t.Fatalf("14.1: Symbol(%d, %t) is %d, %d, %d, want %d, %d, %d", n, wide, s, e, v, symbol, extra, value)
			}
		}
		for _, n := range extremes {
			if s, e, v := block.Symbol(n, wide); s != -1 || e != 0 || v != 0 {
				t.Errorf("14.1: Symbol(%d, %t) is %d, %d, %d", n, wide, s, e, v)
			}
		}
	}
}

func TestReach(t *testing.T) {
	for _, wide := range []bool{false, true} {
		for dist := -300; dist < 2*farthest64; dist++ {
			symbol, extra, value := found(dist, wide, inflate.Far)
			if s, e, v := block.Reach(dist, wide); s != symbol || e != extra || v != value {
				t.Fatalf("14.1: Reach(%d, %t) is %d, %d, %d, want %d, %d, %d", dist, wide, s, e, v, symbol, extra, value)
			}
		}
		for _, dist := range extremes {
			if s, e, v := block.Reach(dist, wide); s != -1 || e != 0 || v != 0 {
				t.Errorf("14.1: Reach(%d, %t) is %d, %d, %d", dist, wide, s, e, v)
			}
		}
	}
}

// fixedBits returns how many bits a valid token takes in the fixed codes.
func fixedBits(x api.Token, wide bool) int {
	if x.Len == 0 {
		if x.Byte < 144 {
			return 8
		}
		return 9
	}
	symbol, extra, _ := found(x.Len, wide, inflate.Base)
	if x.Len == longest && !wide {
		symbol, extra = 285, 0
	}
	_, more, _ := found(x.Dist, wide, inflate.Far)
	if symbol < 280 {
		return 7 + extra + 5 + more
	}
	return 8 + extra + 5 + more
}

// takes asks for the bits of tokens as a block of kind 1.
func takes(t *testing.T, l []api.Token, wide bool) {
	t.Helper()
	want := 3 + 7
	for _, x := range l {
		want += fixedBits(x, wide)
	}
	before := slices.Clone(l)
	if n := block.Fixed(l, wide); n != want {
		t.Fatalf("14.2: Fixed of %d tokens, %t, is %d, want %d", len(l), wide, n, want)
	}
	if !slices.Equal(l, before) {
		t.Fatal("14.2: Fixed changes the tokens")
	}
}

func TestFixed(t *testing.T) {
	r := source(1)
	for _, wide := range []bool{false, true} {
		length, dist := greatest(wide)
		for c := range 256 {
			takes(t, literals(string([]byte{byte(c)})), wide)
		}
		for n := shortest; n <= length; n += 1 + n/300*r.IntN(100) {
			takes(t, []api.Token{match(n, 1)}, wide)
		}
		for n := 1; n <= dist; n += 1 + n/300*r.IntN(100) {
			takes(t, []api.Token{match(3, n)}, wide) // valid, though nothing stands there
		}
		takes(t, []api.Token{match(length, dist), match(3, dist), match(length, 1)}, wide)
		for range 200 {
			takes(t, random(r, r.IntN(300), wide), wide)
		}
	}
	if a, b := block.Fixed(literals("abc"), false), block.Fixed(append(literals("a"), literals("bc")...), true); a != 34 || b != 34 {
		t.Errorf("14.2: Fixed of abc is %d and %d", a, b)
	}
}

func TestFixedInvalid(t *testing.T) {
	for _, wide := range []bool{false, true} {
		for _, x := range invalid(wide) {
			for at := range 4 {
				l := slices.Insert(append(literals("ab"), match(3, 2)), at, x)
				if n := block.Fixed(l, wide); n != -1 {
					t.Errorf("14.2: Fixed of %v, %t, is %d", l, wide, n)
				}
			}
		}
	}
	for _, x := range []api.Token{match(259, 1), match(65538, 1), match(3, 32769), match(3, 65536)} {
		if n := block.Fixed([]api.Token{x}, false); n != -1 {
			t.Errorf("14.2: Fixed of %v is %d", x, n)
		}
		if n := block.Fixed([]api.Token{x}, true); n < 10 {
			t.Errorf("14.2: Fixed of %v, wide, is %d", x, n)
		}
	}
}

func TestStored(t *testing.T) {
	for _, x := range [][2]int{
		{0, 5}, {1, 6}, {2, 7}, {65534, 65539}, {65535, 65540}, {65536, 65546}, {131070, 131080}, {131071, 131086},
		{196605, 196620}, {196606, 196626}, {1 << 24, 1<<24 + 5*257},
		{maxBytes - 1, maxBytes - 1 + 5*16385}, {maxBytes, maxBytes + 5*16385}, {maxBytes + 1, maxBytes + 5*16385},
		{1 << 31, maxBytes + 5*16385}, {1<<32 + 1, maxBytes + 5*16385}, {1 << 40, maxBytes + 5*16385},
		{math.MaxInt - 1, maxBytes + 5*16385}, {math.MaxInt, maxBytes + 5*16385},
		{-1, 0}, {-5, 0}, {-65535, 0}, {math.MinInt32, 0}, {math.MinInt, 0},
	} {
		if n := block.Stored(x[0]); n != x[1] {
			t.Errorf("14.2: Stored(%d) is %d, want %d", x[0], n, x[1])
		}
	}
	for n := range 3 * full {
		w := bits.NewWriter()
		if n%9973 == 0 || n%full < 2 {
			if block.Store(w, make([]byte, n), true); w.Len() != 8*block.Stored(n) {
				t.Fatalf("14.2: Stored(%d) is %d, but Store writes %d bits", n, block.Stored(n), w.Len())
			}
		}
	}
}
