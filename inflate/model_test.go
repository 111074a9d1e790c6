package inflate_test

import (
	"fmt"

	"stevedore/api"
)

// symbol is what RFC 1951 says of a length or a distance symbol; the smallest
// number is 0 where there is no such symbol.
type symbol struct{ least, extra int }

// The tables of RFC 1951, from symbol 257 and from symbol 0 on.
var (
	lengths = []symbol{
		{3, 0}, {4, 0}, {5, 0}, {6, 0}, {7, 0}, {8, 0}, {9, 0}, {10, 0},
		{11, 1}, {13, 1}, {15, 1}, {17, 1}, {19, 2}, {23, 2}, {27, 2}, {31, 2},
		{35, 3}, {43, 3}, {51, 3}, {59, 3}, {67, 4}, {83, 4}, {99, 4}, {115, 4},
		{131, 5}, {163, 5}, {195, 5}, {227, 5}, {258, 0},
	}
	distances = []symbol{
		{1, 0}, {2, 0}, {3, 0}, {4, 0}, {5, 1}, {7, 1}, {9, 2}, {13, 2},
		{17, 3}, {25, 3}, {33, 4}, {49, 4}, {65, 5}, {97, 5}, {129, 6}, {193, 6},
		{257, 7}, {385, 7}, {513, 8}, {769, 8}, {1025, 9}, {1537, 9}, {2049, 10}, {3073, 10},
		{4097, 11}, {6145, 11}, {8193, 12}, {12289, 12}, {16385, 13}, {24577, 13},
	}
)

// lengthOf returns what a length symbol is.
func lengthOf(s int, wide bool) symbol {
	switch {
	case s < 257 || s > 285:
		return symbol{}
	case s == 285 && wide:
		return symbol{3, 16}
	}
	return lengths[s-257]
}

// distanceOf returns what a distance symbol is.
func distanceOf(s int, wide bool) symbol {
	switch {
	case wide && s == 30:
		return symbol{32769, 14}
	case wide && s == 31:
		return symbol{49153, 14}
	case s < 0 || s >= len(distances):
		return symbol{}
	}
	return distances[s]
}

// model decompresses a stream bit by bit, as chapter 12 tells it.
type model struct {
	wide       bool
	size, most int
	bits       []byte
	at         int
	out        []byte
	ready      []int // how many bits each byte of output needs
}

// trace is what a stream comes to: what each byte of output needs, and how
// many bits are needed to tell how the stream ends.
type trace struct {
	out   []byte
	ready []int
	code  api.Errno
	end   int
}

// trail is thrown where a stream ends.
type trail struct{ code api.Errno }

// traced returns what b comes to.
func traced(b []byte, wide bool, size, most int) (t trace) {
	m := &model{wide: wide, size: size, most: most}
	for _, c := range b {
		for i := range 8 {
			m.bits = append(m.bits, c>>i&1)
		}
	}
	defer func() {
		end, ok := recover().(trail)
		if !ok {
			panic("the model is wrong")
		}
		t = trace{m.out, m.ready, end.code, m.at}
	}()
	for !m.block() {
	}
	panic(trail{api.OK})
}

// seen returns what there is to see of the trace after n bytes of the stream.
func (t trace) seen(n int) ([]byte, api.Errno) {
	size := 0
	for size < len(t.out) && t.ready[size] <= 8*n {
		size++
	}
	if t.code == api.ErrShort || t.end > 8*n {
		return t.out[:size], api.ErrShort
	}
	return t.out[:size], t.code
}

// used returns how many bytes the stream has.
func (t trace) used() int {
	if t.code != api.OK {
		return 0
	}
	return (t.end + 7) / 8
}

// number reads n bits, the lowest one first.
func (m *model) number(n int) int {
	v := 0
	for i := range n {
		if m.at == len(m.bits) {
			panic(trail{api.ErrShort})
		}
		v |= int(m.bits[m.at]) << i
		m.at++
	}
	return v
}

// hold ends the stream unless ok.
func hold(ok bool) {
	if !ok {
		panic(trail{api.ErrForm})
	}
}

// put outputs n bytes, of which each is the one that stands dist before it; or
// c, if dist is 0.
func (m *model) put(n, dist int, c byte) {
	for range n {
		if dist > 0 {
			c = m.out[len(m.out)-dist]
		}
		m.out = append(m.out, c)
		m.ready = append(m.ready, m.at)
	}
}

// room ends the stream if n more bytes are too many.
func (m *model) room(n int) {
	if len(m.out)+n > m.most {
		panic(trail{api.ErrLimit})
	}
}

// words are the code words of a code, as texts of 0 and 1, and whatever a code
// word begins with.
type words struct {
	symbols map[string]int
	begins  map[string]bool
}

// wordsOf returns the code words for lengths.
func wordsOf(lens []int) words {
	w := words{map[string]int{}, map[string]bool{}}
	next := 0
	for n := 1; n <= 15; n++ {
		next *= 2
		for s, l := range lens {
			if l != n {
				continue
			}
			word := fmt.Sprintf("%0*b", n, next)
			w.symbols[word] = s
			for i := range word {
				w.begins[word[:i]] = true
			}
			next++
		}
	}
	return w
}

// symbol reads a symbol.
func (m *model) symbol(w words) int {
	word := ""
	for {
		if s, ok := w.symbols[word]; ok {
			return s
		}
		hold(w.begins[word])
		word += string(rune('0' + m.number(1)))
	}
}

// kraft returns the Kraft sum of lengths, in parts of 2^15, and how many of
// them aren't 0.
func kraft(lens []int) (sum, some int) {
	for _, n := range lens {
		if n > 0 {
			sum += 1 << (15 - n)
			some++
		}
	}
	return sum, some
}

// good tells whether a code is Whole or Single.
func good(lens []int) bool {
	sum, some := kraft(lens)
	return sum == 1<<15 || some == 1 && sum == 1<<14
}

// block reads a block, and tells whether it is the last one.
func (m *model) block() bool {
	last := m.number(1) == 1
	switch m.number(2) {
	case 0:
		m.stored()
	case 1:
		m.tokens(wordsOf(fixedLiterals()), wordsOf(fixedDistances()))
	case 2:
		m.dynamic()
	default:
		hold(false)
	}
	return last
}

func (m *model) stored() {
	m.at = (m.at + 7) / 8 * 8
	n := m.number(16)
	hold(m.number(16) == 65535-n)
	for range n {
		c := m.number(8)
		m.room(1)
		m.put(1, 0, byte(c))
	}
}

func (m *model) dynamic() {
	literals := m.number(5) + 257
	hold(literals <= 286)
	distances := m.number(5) + 1
	hold(m.wide || distances <= 30)
	short := make([]int, 19)
	for i := range m.number(4) + 4 {
		short[codeOrder[i]] = m.number(3)
	}
	sum, _ := kraft(short)
	hold(sum == 1<<15)
	w := wordsOf(short)
	var lens []int
	for len(lens) < literals+distances {
		lens = append(lens, m.repeated(w, lens)...)
		hold(len(lens) <= literals+distances)
	}
	hold(lens[256] > 0 && good(lens[:literals]))
	_, some := kraft(lens[literals:])
	hold(some == 0 || good(lens[literals:]))
	m.tokens(wordsOf(lens[:literals]), wordsOf(lens[literals:]))
}

// repeated reads lengths that are equal.
func (m *model) repeated(w words, lens []int) []int {
	switch s := m.symbol(w); s {
	case 16:
		hold(len(lens) > 0)
		return times(lens[len(lens)-1], 3+m.number(2))
	case 17:
		return times(0, 3+m.number(3))
	case 18:
		return times(0, 11+m.number(7))
	default:
		return times(s, 1)
	}
}

// tokens reads tokens, up to the symbol that ends a block.
func (m *model) tokens(literals, distances words) {
	for {
		s := m.symbol(literals)
		if s == 256 {
			return
		}
		if s < 256 {
			m.room(1)
			m.put(1, 0, byte(s))
			continue
		}
		l := lengthOf(s, m.wide)
		hold(l.least > 0)
		n := l.least + m.number(l.extra)
		m.room(n)
		d := distanceOf(m.symbol(distances), m.wide)
		hold(d.least > 0)
		dist := d.least + m.number(d.extra)
		hold(dist <= min(len(m.out), m.size))
		m.put(n, dist, 0)
	}
}
