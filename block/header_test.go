package block

import (
	"math/rand/v2"
	"slices"
	"testing"

	"stevedore/api"
	"stevedore/bits"
	"stevedore/canon"
)

// read reads a header by chapter 12's words, and returns its lengths.
func read(t *testing.T, r *bits.Reader) []int {
	t.Helper()
	literals, distances := 257+number(t, r, 5), 1+number(t, r, 5)
	short := make([]int, 19)
	for _, symbol := range []int{16, 17, 18, 0, 8, 7, 9, 6, 10, 5, 11, 4, 12, 3, 13, 2, 14, 1, 15}[:4+number(t, r, 4)] {
		short[symbol] = number(t, r, 3)
	}
	if canon.Kind(short) != canon.Whole {
		t.Fatalf("14.4: the code for the lengths is %v", short)
	}
	var lens []int
	for len(lens) < literals+distances {
		n, v := 1, symbol(t, r, short)
		switch v {
		case 16:
			n, v = 3+number(t, r, 2), lens[len(lens)-1]
		case 17:
			n, v = 3+number(t, r, 3), 0
		case 18:
			n, v = 11+number(t, r, 7), 0
		}
		lens = append(lens, slices.Repeat([]int{v}, n)...)
	}
	return lens
}

// number reads a number of n bits.
func number(t *testing.T, r *bits.Reader, n int) int {
	t.Helper()
	v, code := r.Get(n)
	if code != api.OK {
		t.Fatalf("14.4: the header is too short: %d", code)
	}
	return int(v)
}

// symbol reads a symbol in a code.
func symbol(t *testing.T, r *bits.Reader, lens []int) int {
	t.Helper()
	words, _ := canon.Codes(lens)
	v := 0
	for n := 1; n <= 15; n++ {
		v = v<<1 | number(t, r, 1)
		for s := range lens {
			if lens[s] == n && int(words[s]) == v {
				return s
			}
		}
	}
	t.Fatal("14.4: there is no such symbol")
	return 0
}

// tells asks for a header of these lengths; whether they are those of a code
// doesn't matter to it.
func tells(t *testing.T, literals, distances []int) {
	t.Helper()
	h := headerOf(codes{code{lens: literals}, code{lens: distances}})
	w := bits.NewWriter()
	h.put(w)
	r := bits.NewReader(w.Bytes())
	if lens := read(t, r); !slices.Equal(lens, slices.Concat(literals, distances)) {
		t.Fatalf("14.4: a header tells %v, not %v and %v", lens, literals, distances)
	}
	if r.At() != w.Len() || h.bits() != w.Len() {
		t.Fatalf("14.4: a header of %d bits has %d and ends at %d", h.bits(), w.Len(), r.At())
	}
}

// TestRuns has runs of any length, across the border of both codes, too.
func TestRuns(t *testing.T) {
	for _, v := range []int{0, 1, 8, 15} {
		for n := range 285 {
			rest := slices.Repeat([]int{7, 0, 5, 0, 0, 5, 5}, 50)
			lens := slices.Concat(rest[:1], slices.Repeat([]int{v}, n+1), rest)
			tells(t, lens[:257], lens[257:258])
			tells(t, lens[:257], lens[257:286])
			tells(t, lens[:286], lens[286:316])
			tells(t, lens[:260], lens[260:292])
		}
	}
}

// TestSpelled asks for repeats as long as they may be.
func TestSpelled(t *testing.T) {
	zero, one, all := piece{symbol: 0}, piece{symbol: 9}, piece{18, 7, 127}
	for _, x := range []struct {
		length, n int
		want      []piece
	}{
		{0, 1, []piece{zero}},
		{0, 2, []piece{zero, zero}},
		{0, 3, []piece{{17, 3, 0}}},
		{0, 10, []piece{{17, 3, 7}}},
		{0, 11, []piece{{18, 7, 0}}},
		{0, 138, []piece{all}},
		{0, 139, []piece{all, zero}},
		{0, 141, []piece{all, {17, 3, 0}}},
		{0, 148, []piece{all, {17, 3, 7}}},
		{0, 149, []piece{all, {18, 7, 0}}},
		{9, 1, []piece{one}},
		{9, 3, []piece{one, one, one}},
		{9, 4, []piece{one, {16, 2, 0}}},
		{9, 7, []piece{one, {16, 2, 3}}},
		{9, 8, []piece{one, {16, 2, 3}, one}},
		{9, 13, []piece{one, {16, 2, 3}, {16, 2, 3}}},
	} {
		if l := spelled(slices.Repeat([]int{x.length}, x.n)); !slices.Equal(l, x.want) {
			t.Errorf("14.4: %d lengths %d are %v, not %v", x.n, x.length, l, x.want)
		}
	}
}

func TestHeaders(t *testing.T) {
	r := rand.New(rand.NewPCG(14, 14))
	for range 500 {
		lens := []int{1, 2}
		for len(lens) < 318 {
			lens = append(lens, slices.Repeat([]int{r.IntN(16)}, 1+r.IntN(1+r.IntN(40)))...)
		}
		literals := 257 + r.IntN(30)
		tells(t, lens[:literals], lens[literals:literals+1+r.IntN(32)])
	}
}

// TestSteepHeader has lengths of which some are so rare that their code words
// would be longer than they may be.
func TestSteepHeader(t *testing.T) {
	counts := [16]int{0, 1, 1, 2, 3, 5, 8, 13, 21, 34, 55, 89, 55}
	var lens []int
	for last := -1; len(lens) < 257+30; { // none twice in a row, always the one of which most are left
		most := 0
		for v, n := range counts {
			if v != last && n > counts[most] || most == last {
				most = v
			}
		}
		lens = append(lens, most)
		counts[most]--
		last = most
	}
	tells(t, lens[:257], lens[257:])
}

// TestStoredBits holds the bits that are expected against those that Store
// writes.
func TestStoredBits(t *testing.T) {
	for at := range 17 {
		for _, n := range []int{0, 1, 100, full, full + 1, 3 * full} {
			w := bits.NewWriter()
			w.Put(0, at)
			Store(w, make([]byte, n), true)
			if expected := storedBits(at, n); at+expected != w.Len() {
				t.Errorf("14.3: %d bytes behind %d bits take %d bits, not %d", n, at, w.Len()-at, expected)
			}
		}
	}
}

// TestHighCounts has more of a symbol than package pack takes.
func TestHighCounts(t *testing.T) {
	for _, n := range []int{1<<30 + 1, 1<<31 - 1} {
		c := best([]int{n, 0, 1, n, 5}, longest)
		if canon.Kind(c.lens) != canon.Whole || c.lens[1] != 0 || c.lens[2] < c.lens[0] {
			t.Errorf("14.4: %d times a symbol gives the lengths %v", n, c.lens)
		}
	}
}
