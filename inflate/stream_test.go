package inflate_test

import (
	"math/rand/v2"
	"slices"

	"stevedore/api"
	"stevedore/bits"
	"stevedore/canon"
	"stevedore/pack"
)

// codeOrder is that of the lengths of the code for the lengths.
var codeOrder = []int{16, 17, 18, 0, 8, 7, 9, 6, 10, 5, 11, 4, 12, 3, 13, 2, 14, 1, 15}

// times returns n numbers v.
func times(v, n int) []int { return slices.Repeat([]int{v}, n) }

// fixedLiterals returns the lengths of the literal code that a block of kind 1
// has.
func fixedLiterals() []int {
	return slices.Concat(times(8, 144), times(9, 112), times(7, 24), times(8, 8))
}

// fixedDistances returns those of its distance code.
func fixedDistances() []int { return times(5, 32) }

// piece is a symbol of a block, with the extra bits behind it.
type piece struct {
	far    bool // a distance symbol
	symbol int
	v, n   int
}

// writer writes streams; what it is told may be wrong.
type writer struct {
	*bits.Writer
	r    *rand.Rand // for what may be written in several ways; nil: no such
	wide bool
}

// begun returns a writer of an empty stream.
func begun(wide bool, r *rand.Rand) *writer { return &writer{bits.NewWriter(), r, wide} }

// block begins a block.
func (w *writer) block(last bool, kind int) {
	if last {
		w.Put(1, 1)
	} else {
		w.Put(0, 1)
	}
	w.Put(uint32(kind), 2)
}

// stored writes a block of kind 0.
func (w *writer) stored(last bool, b string) {
	w.block(last, 0)
	for w.Len()%8 > 0 {
		w.Put(1, 1) // it doesn't matter what is skipped
	}
	w.Put(uint32(len(b)), 16)
	w.Put(uint32(65535-len(b)), 16)
	w.Raw([]byte(b))
}

// fixed writes a block of kind 1.
func (w *writer) fixed(last bool, l []piece) {
	w.block(last, 1)
	w.pieces(l, fixedLiterals(), fixedDistances())
}

// pieces writes symbols in these codes.
func (w *writer) pieces(l []piece, literals, distances []int) {
	lens := map[bool][]int{false: literals, true: distances}
	words := map[bool][]uint32{}
	for far := range lens {
		words[far], _ = canon.Codes(lens[far])
	}
	for _, p := range l {
		w.Code(words[p.far][p.symbol], lens[p.far][p.symbol])
		w.Put(uint32(p.v), p.n)
	}
}

// counts writes the three numbers with which a block of kind 2 begins.
func (w *writer) counts(literals, distances, codes int) {
	w.Put(uint32(literals-257), 5)
	w.Put(uint32(distances-1), 5)
	w.Put(uint32(codes-4), 4)
}

// short writes the lengths of the code for the lengths, as many as are wanted.
func (w *writer) short(lens []int, n int) {
	for _, s := range codeOrder[:n] {
		w.Put(uint32(lens[s]), 3)
	}
}

// head writes the header of a block of kind 2: the lengths, in the code short.
func (w *writer) head(last bool, literals, distances int, l []piece, short []int) {
	w.block(last, 2)
	n := 19
	for n > 4 && short[codeOrder[n-1]] == 0 {
		n--
	}
	w.counts(literals, distances, n)
	w.short(short, n)
	w.pieces(l, short, nil)
}

// plainLengths returns pieces of one length each, and a code for them.
func plainLengths(lens ...[]int) ([]piece, []int) {
	var l []piece
	for _, n := range slices.Concat(lens...) {
		l = append(l, piece{symbol: n})
	}
	return l, slices.Concat(times(4, 13), []int{5, 5, 5, 5, 5, 5})
}

// dynamic writes a block of kind 2 with these codes, in which no lengths are
// repeated.
func (w *writer) dynamic(last bool, l []piece, literals, distances []int) {
	lens, short := plainLengths(literals, distances)
	w.head(last, len(literals), len(distances), lens, short)
	w.pieces(l, literals, distances)
}

// lensWith returns n lengths, of which those that are told aren't 0.
func lensWith(n int, some map[int]int) []int {
	lens := make([]int, n)
	for s, l := range some {
		lens[s] = l
	}
	return lens
}

// chance tells whether something rare happens.
func (w *writer) chance(one int) bool { return w.r != nil && w.r.IntN(one) == 0 }

// spelled returns the symbols of tokens, and the one that ends a block.
func (w *writer) spelled(l []api.Token) []piece {
	var p []piece
	for _, t := range l {
		if t.Len == 0 {
			p = append(p, piece{symbol: int(t.Byte)})
			continue
		}
		p = append(p, w.lengthPiece(t.Len), w.distancePiece(t.Dist))
	}
	return append(p, piece{symbol: 256})
}

// lengthPiece returns a symbol for a length: one of those there are.
func (w *writer) lengthPiece(n int) piece {
	var l []piece
	for s := 257; s <= 285; s++ {
		of := lengthOf(s, w.wide)
		if of.least <= n && n < of.least+1<<of.extra {
			l = append(l, piece{false, s, n - of.least, of.extra})
		}
	}
	if w.chance(4) {
		return l[len(l)-1]
	}
	return l[0]
}

// distancePiece returns the symbol for a distance.
func (w *writer) distancePiece(n int) piece {
	s := 31
	for distanceOf(s, w.wide).least == 0 || distanceOf(s, w.wide).least > n {
		s--
	}
	of := distanceOf(s, w.wide)
	return piece{true, s, n - of.least, of.extra}
}

// random writes blocks of random kinds with random tokens, no farther apart
// than size, and returns the tokens.
func (w *writer) random(blocks, tokens, size int) []api.Token {
	var all []api.Token
	total := 0
	for i := range blocks {
		last := i == blocks-1
		if w.r.IntN(4) == 0 {
			b := text(w.r, w.r.IntN(tokens+1))
			for _, c := range []byte(b) {
				all = append(all, api.Token{Byte: c})
			}
			total += len(b)
			w.stored(last, b)
			continue
		}
		l := w.tokens(w.r.IntN(tokens+1), &total, size)
		all = append(all, l...)
		if w.r.IntN(3) == 0 {
			w.fixed(last, w.spelled(l))
			continue
		}
		w.packed(last, w.spelled(l))
	}
	return all
}

// text returns n bytes of which most are alike.
func text(r *rand.Rand, n int) string {
	b := make([]byte, n)
	for i := range b {
		b[i] = byte(r.ExpFloat64() * 20)
	}
	return string(b)
}

// upTo returns a number from 1 to n; those of all magnitudes are as frequent.
func upTo(r *rand.Rand, n int) int {
	bound := 1
	for bound < n && r.IntN(6) > 0 {
		bound *= 3
	}
	return 1 + r.IntN(min(bound, n))
}

// tokens returns n tokens that may follow total bytes.
func (w *writer) tokens(n int, total *int, size int) []api.Token {
	longest, farthest := api.MaxLen, min(size, api.Window)
	if w.wide {
		longest, farthest = api.MaxLen64, min(size, api.Window64)
	}
	var l []api.Token
	for range n {
		if *total == 0 || w.r.IntN(2) == 0 {
			l = append(l, api.Token{Byte: byte(w.r.ExpFloat64() * 20)})
			*total++
			continue
		}
		t := api.Token{Len: min(longest, 2+upTo(w.r, longest)), Dist: upTo(w.r, min(*total, farthest))}
		l = append(l, t)
		*total += t.Len
	}
	return l
}

// packed writes a block of kind 2 with codes of its own for these symbols, and
// some others.
func (w *writer) packed(last bool, l []piece) {
	counts := map[bool][]int{false: make([]int, 286), true: make([]int, 30)}
	if w.wide {
		counts[true] = make([]int, 32)
	}
	for _, p := range l {
		counts[p.far][p.symbol]++
	}
	lens := map[bool][]int{}
	for far, c := range counts {
		for range w.r.IntN(12) {
			c[w.r.IntN(len(c))] += 1 << w.r.IntN(16)
		}
		n := len(c)
		for c[n-1] == 0 && n > 1 && (far || n > 257) && w.r.IntN(30) > 0 {
			n--
		}
		lens[far], _ = pack.Lengths(c[:n], 15)
	}
	w.repeats(last, lens[false], lens[true])
	w.pieces(l, lens[false], lens[true])
}

// repeats writes a header with these codes, and repeats lengths where that may
// be done, but not always.
func (w *writer) repeats(last bool, literals, distances []int) {
	lens := slices.Concat(literals, distances)
	var l []piece
	for i := 0; i < len(lens); {
		n := 1
		for i+n < len(lens) && lens[i+n] == lens[i] {
			n++
		}
		p, taken := w.repeat(lens[i], n, i > 0 && lens[i-1] == lens[i])
		l = append(l, p)
		i += taken
	}
	counts := make([]int, 19)
	for _, p := range l {
		counts[p.symbol]++
	}
	some := w.r.IntN(19) // a code of one symbol alone wouldn't be Whole
	counts[some]++
	counts[(some+1+w.r.IntN(18))%19]++
	short, _ := pack.Lengths(counts, 7)
	w.head(last, len(literals), len(distances), l, short)
}

// repeat returns a symbol for up to n equal lengths, and for how many it is.
func (w *writer) repeat(length, n int, known bool) (piece, int) {
	ways := []piece{{symbol: length}}
	if known && n >= 3 {
		ways = append(ways, piece{symbol: 16, v: w.r.IntN(min(n, 6) - 2), n: 2})
	}
	if length == 0 && n >= 3 {
		ways = append(ways, piece{symbol: 17, v: w.r.IntN(min(n, 10) - 2), n: 3})
	}
	if length == 0 && n >= 11 {
		ways = append(ways, piece{symbol: 18, v: w.r.IntN(min(n, 138) - 10), n: 7})
	}
	p := ways[w.r.IntN(len(ways))]
	least := map[int]int{16: 3, 17: 3, 18: 11}
	if least[p.symbol] == 0 {
		return p, 1
	}
	return p, least[p.symbol] + p.v
}
