package block

import (
	"slices"

	"stevedore/bits"
)

// How many lengths a header has at least: of the literal code, of the distance
// code, and of the code in which these lengths stand.
const (
	leastLiterals  = 257
	leastDistances = 1
	leastShort     = 4
)

// longestShort is how many bits a code word has at most in the code for the
// lengths.
const longestShort = 7

// order is that in which the lengths of the code for the lengths stand.
var order = [...]int{16, 17, 18, 0, 8, 7, 9, 6, 10, 5, 11, 4, 12, 3, 13, 2, 14, 1, 15}

// repeat is a symbol that stands for several equal lengths: how many these are
// at least and at most, and the extra bits that tell how many.
type repeat struct {
	symbol, least, most, extra int
}

var (
	again     = repeat{16, 3, 6, 2} // those of the length before
	someZeros = repeat{17, 3, 10, 3}
	manyZeros = repeat{18, 11, 138, 7}
)

// header is what a block of kind 2 has ahead of its tokens: two codes, whose
// lengths stand in a code of their own.
type header struct {
	literals, distances int // how many lengths each code has
	pieces              []piece
	short               code
}

// headerOf returns the header that tells these codes.
func headerOf(c codes) header {
	pieces := spelled(slices.Concat(c.literals.lens, c.distances.lens))
	counts := make([]int, len(order))
	for _, p := range pieces {
		counts[p.symbol]++
	}
	return header{len(c.literals.lens), len(c.distances.lens), pieces, best(counts, longestShort)}
}

// put writes the header.
func (h header) put(w *bits.Writer) {
	n := len(order)
	for n > leastShort && h.short.lens[order[n-1]] == 0 {
		n--
	}
	w.Put(uint32(h.literals-leastLiterals), 5)
	w.Put(uint32(h.distances-leastDistances), 5)
	w.Put(uint32(n-leastShort), 4)
	for i := range n {
		w.Put(uint32(h.short.lens[order[i]]), 3)
	}
	for _, p := range h.pieces {
		h.short.put(w, p)
	}
}

// bits returns how many bits the header takes. It is short enough to be written
// for that.
func (h header) bits() int {
	w := bits.NewWriter()
	h.put(w)
	return w.Len()
}

// spelled returns the pieces that tell these lengths.
func spelled(lens []int) []piece {
	var l []piece
	for len(lens) > 0 {
		n := run(lens)
		l = told(l, lens[0], n)
		lens = lens[n:]
	}
	return l
}

// run returns how many lengths are equal to the first one, up to the first that
// isn't.
func run(lens []int) int {
	n := 1
	for n < len(lens) && lens[n] == lens[0] {
		n++
	}
	return n
}

// told appends the pieces that tell n equal lengths: repeats, and what is left
// one by one.
func told(l []piece, length, n int) []piece {
	switch {
	case length == 0 && n >= manyZeros.least:
		l, n = repeated(l, manyZeros, n)
		fallthrough // what is left may still be some zeros
	case length == 0:
		l, n = repeated(l, someZeros, n)
	default:
		l, n = repeated(append(l, piece{symbol: length}), again, n-1)
	}
	for range n {
		l = append(l, piece{symbol: length})
	}
	return l
}

// repeated appends as many repeats for n lengths as there may be, and returns
// how many lengths are left.
func repeated(l []piece, r repeat, n int) ([]piece, int) {
	for n >= r.least {
		some := min(n, r.most)
		l = append(l, piece{r.symbol, r.extra, some - r.least})
		n -= some
	}
	return l, n
}
