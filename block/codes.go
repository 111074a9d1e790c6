package block

import (
	"slices"

	"stevedore/api"
	"stevedore/bits"
	"stevedore/canon"
	"stevedore/pack"
)

const (
	literals  = 286     // the symbols of the literal code
	distances = 32      // those of the distance code, of which only wide blocks use the last two
	longest   = 15      // the bits that a code word has at most
	highest   = 1 << 30 // the greatest count that package pack takes
)

// tally tells how often each symbol occurs, and how many extra bits there are.
type tally struct {
	literals, distances []int
	extra               int
}

// count returns the tally of tokens, which are valid, and of their end.
func count(l []api.Token, wide bool) tally {
	c := tally{literals: make([]int, literals), distances: make([]int, distances)}
	for _, t := range l {
		if t.Len == 0 {
			c.literals[t.Byte]++
			continue
		}
		length, distance := lengthPiece(t.Len, wide), distancePiece(t.Dist)
		c.literals[length.symbol]++
		c.distances[distance.symbol]++
		c.extra += length.extra + distance.extra
	}
	c.literals[stop]++
	return c
}

// code is a prefix code: the length and the word of each symbol.
type code struct {
	lens  []int
	words []uint32
}

// made returns the code of these lengths, which are those of one.
func made(lens []int) code {
	words, _ := canon.Codes(lens)
	return code{lens, words}
}

// best returns the code in which symbols that occur so often take the fewest
// bits, of code words of at most so many bits.
func best(counts []int, atMost int) code {
	capped := make([]int, len(counts))
	for i, n := range counts {
		capped[i] = min(n, highest)
	}
	lens, _ := pack.Lengths(capped, atMost)
	return made(lens)
}

// shortened returns the code without the last symbols that have no code word.
// One is left even if none has: a header can't tell of no lengths.
func (c code) shortened() code {
	n := len(c.lens)
	for n > 1 && c.lens[n-1] == 0 {
		n--
	}
	return code{c.lens[:n], c.words[:n]}
}

// put writes a piece in this code.
func (c code) put(w *bits.Writer, p piece) {
	w.Code(c.words[p.symbol], c.lens[p.symbol])
	w.Put(uint32(p.value), p.extra)
}

// codes are those in which the tokens of a block stand.
type codes struct {
	literals, distances code
}

// fixedCodes returns the codes of a block that brings none.
func fixedCodes() codes {
	lens := slices.Concat(
		slices.Repeat([]int{8}, 144), slices.Repeat([]int{9}, 256-144),
		slices.Repeat([]int{7}, 280-256), slices.Repeat([]int{8}, 288-280))
	return codes{made(lens), made(slices.Repeat([]int{5}, distances))}
}

// ownCodes returns the codes that are best for what was counted.
func ownCodes(t tally) codes {
	return codes{best(t.literals, longest).shortened(), best(t.distances, longest).shortened()}
}

// bits returns how many bits what was counted takes in these codes.
func (c codes) bits(t tally) int {
	return pack.Cost(t.literals, c.literals.lens) + pack.Cost(t.distances, c.distances.lens) + t.extra
}

// put writes tokens, and their end.
func (c codes) put(w *bits.Writer, l []api.Token, wide bool) {
	for _, t := range l {
		if t.Len == 0 {
			c.literals.put(w, piece{symbol: int(t.Byte)})
			continue
		}
		c.literals.put(w, lengthPiece(t.Len, wide))
		c.distances.put(w, distancePiece(t.Dist))
	}
	c.literals.put(w, piece{symbol: stop})
}
