package inflate

import (
	"slices"

	"stevedore/api"
	"stevedore/canon"
	"stevedore/table"
)

// What block headers have.
const (
	fixedLiterals  = 288
	fixedDistances = 32
	mostLiterals   = 257 + 29 // where HLIT isn't above 29
	codeSymbols    = 19
)

// How many bits the tables look at first: enough for nearly all symbols, and
// few enough that a table is made quickly.
const (
	firstCodes     = 7 // as long as a code word there may be
	firstLiterals  = 9
	firstDistances = 6
)

// order is that in which the lengths of the code for the lengths stand.
var order = [codeSymbols]int{16, 17, 18, 0, 8, 7, 9, 6, 10, 5, 11, 4, 12, 3, 13, 2, 14, 1, 15}

// head is what was read of the header of a block with codes of its own.
type head struct {
	literals, distances, codes int // how many lengths there are of each code
	lens                       []int
	code                       *table.Table // that in which the lengths stand
}

// open reads the first bits of a block.
func (x *Inflate) open() {
	v := x.number(3)
	x.final = v&1 == 1
	switch v >> 1 {
	case 0:
		x.next = storedSize
	case 1:
		x.codes = x.fixedCodes()
		x.next = literal
	case 2:
		x.next = literalCount
	default:
		fail(api.ErrForm)
	}
}

// close ends a block.
func (x *Inflate) close() {
	x.next = opening
	if x.final {
		x.next = over
	}
}

// readSize reads LEN and NLEN.
func (x *Inflate) readSize() {
	b, code := x.in.Take(4)
	if code != api.OK {
		x.lack()
	}
	size, inverted := uint16(b[0])|uint16(b[1])<<8, uint16(b[2])|uint16(b[3])<<8
	if inverted != ^size {
		fail(api.ErrForm)
	}
	x.left = int(size)
	x.next = storedBytes
}

// readBytes reads what is there of a stored block.
func (x *Inflate) readBytes() {
	if x.left == 0 {
		x.close()
		return
	}
	n := min(x.left, x.in.Bits()/8)
	if n == 0 {
		x.lack()
	}
	x.room(1)
	b, _ := x.in.Take(min(n, x.most-x.total))
	for _, c := range b {
		x.put(c)
	}
	x.left -= len(b)
}

// fixedCodes returns the codes of a block that brings none.
func (x *Inflate) fixedCodes() codes {
	if x.fixed == (codes{}) {
		lens := slices.Concat(
			slices.Repeat([]int{8}, 144), slices.Repeat([]int{9}, 256-144),
			slices.Repeat([]int{7}, 280-256), slices.Repeat([]int{8}, fixedLiterals-280))
		x.fixed = codes{
			literals:  made(lens, firstLiterals),
			distances: made(slices.Repeat([]int{5}, fixedDistances), firstDistances),
		}
	}
	return x.fixed
}

// made returns the table of a code, which is one: canon.Kind was asked.
func made(lens []int, first int) *table.Table {
	t, _ := table.New(lens, first)
	return t
}

// readCount reads one of the three numbers of lengths.
func (x *Inflate) readCount() {
	switch x.next {
	case literalCount:
		x.head = head{literals: 257 + x.number(5)}
		if x.head.literals > mostLiterals {
			fail(api.ErrForm)
		}
		x.next = distanceCount
	case distanceCount:
		x.head.distances = 1 + x.number(5)
		if x.head.distances > 1+lastDistance(x.wide) {
			fail(api.ErrForm)
		}
		x.next = codeCount
	case codeCount:
		x.head.codes = 4 + x.number(4)
		x.next = codeLengths
	}
}

// readCodeLengths reads the code in which the lengths stand.
func (x *Inflate) readCodeLengths() {
	for len(x.head.lens) < x.head.codes {
		x.head.lens = append(x.head.lens, x.number(3))
	}
	lens := make([]int, codeSymbols)
	for i, n := range x.head.lens {
		lens[order[i]] = n
	}
	if canon.Kind(lens) != canon.Whole {
		fail(api.ErrForm)
	}
	x.head.code = made(lens, firstCodes)
	x.head.lens = nil
	x.next = lengths
}

// readLengths reads the lengths of the literal and the distance code.
func (x *Inflate) readLengths() {
	for len(x.head.lens) < x.head.literals+x.head.distances {
		x.readLength()
	}
	literals, distances := x.head.lens[:x.head.literals], x.head.lens[x.head.literals:]
	if literals[stop] == 0 || !usable(literals) || canon.Kind(distances) != canon.None && !usable(distances) {
		fail(api.ErrForm)
	}
	x.codes = codes{made(literals, firstLiterals), made(distances, firstDistances)}
	x.head = head{}
	x.next = literal
}

// usable tells whether no bits are missing in a code, or all but one of two.
func usable(lens []int) bool {
	kind := canon.Kind(lens)
	return kind == canon.Whole || kind == canon.Single
}

// readLength reads one length, or several equal ones.
func (x *Inflate) readLength() {
	s, n := x.symbol(x.head.code)
	length, times, extra := s, 1, 0
	switch s {
	case 16:
		length, times, extra = x.previous(), 3, 2
	case 17:
		length, times, extra = 0, 3, 3
	case 18:
		length, times, extra = 0, 11, 7
	}
	times += x.behind(n, extra)
	if len(x.head.lens)+times > x.head.literals+x.head.distances {
		fail(api.ErrForm)
	}
	x.in.Skip(n + extra)
	x.head.lens = append(x.head.lens, slices.Repeat([]int{length}, times)...)
}

// previous returns the length that stands before the one that is read.
func (x *Inflate) previous() int {
	if len(x.head.lens) == 0 {
		fail(api.ErrForm)
	}
	return x.head.lens[len(x.head.lens)-1]
}
