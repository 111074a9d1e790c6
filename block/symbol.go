package block

import (
	"stevedore/api"
	"stevedore/inflate"
	"stevedore/lz"
)

// Symbols of the literal code that aren't bytes.
const (
	stop    = 256 // the end of the block
	shorter = 257 // the first length symbol
	greater = 285 // the last one, which belongs to no group
)

// piece is a symbol, and the extra bits behind it.
type piece struct {
	symbol, extra, value int
}

// Symbol returns the symbol of a match length, the number of its extra bits,
// and their value.
func Symbol(n int, wide bool) (int, int, int) {
	if !lz.May(api.Token{Len: n, Dist: 1}, wide) {
		return -1, 0, 0
	}
	p := lengthPiece(n, wide)
	return p.symbol, p.extra, p.value
}

// Reach returns the symbol of a match distance, the number of its extra bits,
// and their value.
func Reach(dist int, wide bool) (int, int, int) {
	if !lz.May(api.Token{Len: api.MinLen, Dist: dist}, wide) {
		return -1, 0, 0
	}
	p := distancePiece(dist)
	return p.symbol, p.extra, p.value
}

// lengthPiece returns the piece of a length that a match may have.
func lengthPiece(n int, wide bool) piece {
	if n > api.MaxLen || n == api.MaxLen && !wide {
		least, extra, _ := inflate.Base(greater, wide)
		return piece{greater, extra, n - least}
	}
	p := grouped(n-api.MinLen, 4)
	p.symbol += shorter
	return p
}

// distancePiece returns the piece of a distance that a match may have.
func distancePiece(dist int) piece { return grouped(dist-1, 2) }

// grouped returns the piece of a number from 0 on, where symbols come in groups
// of so many: those of the first two groups have no extra bits, those of each
// further group one more than the group before.
func grouped(n, size int) piece {
	extra := 0
	for n>>extra >= 2*size {
		extra++
	}
	return piece{size*extra + n>>extra, extra, n & (1<<extra - 1)}
}
