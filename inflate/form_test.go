package inflate_test

import (
	"slices"
	"strings"
	"testing"

	"stevedore/api"
	"stevedore/inflate"
)

// Codes for the streams of this file: two literals (a and the stop), which
// have one bit each, and no distances or one.
var (
	twoLiterals = lensWith(257, map[int]int{'a': 1, 256: 1})
	noDistance  = times(0, 1)
	oneDistance = times(1, 1)
)

// halves is a code for lengths of two symbols, which have one bit each.
func halves(a, b int) []int { return lensWith(19, map[int]int{a: 1, b: 1}) }

// symbols returns pieces without extra bits.
func symbols(l ...int) []piece {
	var p []piece
	for _, s := range l {
		p = append(p, piece{symbol: s})
	}
	return p
}

// lengthsOf writes a header whose lengths are these pieces, and bits behind it.
func lengthsOf(literals, distances int, short []int, l ...piece) func(w *writer) {
	return func(w *writer) { w.head(true, literals, distances, l, short) }
}

// dynamicOf writes a block of kind 2 with these codes.
func dynamicOf(literals, distances []int, l ...piece) func(w *writer) {
	return func(w *writer) { w.dynamic(true, l, literals, distances) }
}

// fixedOf writes a block of kind 1.
func fixedOf(l ...piece) func(w *writer) {
	return func(w *writer) { w.fixed(true, l) }
}

// far returns a distance symbol with extra bits.
func far(s, v, n int) piece { return piece{true, s, v, n} }

// begin writes the first bits of a block, three numbers, and lengths of the
// code for lengths.
func begin(literals, distances int, short []int) func(w *writer) {
	return func(w *writer) {
		w.block(true, 2)
		w.counts(literals, distances, 19)
		w.short(short, 19)
	}
}

// numbers writes numbers of these many bits.
func numbers(l ...[2]int) func(w *writer) {
	return func(w *writer) {
		for _, x := range l {
			w.Put(uint32(x[0]), x[1])
		}
	}
}

// stream is one that is written on purpose, and how it ends; whatever comes
// behind its bits is the same.
type stream struct {
	name  string
	wide  bool
	most  int
	write func(w *writer)
	out   string
	code  api.Errno
}

// zeros is a piece that stands for n lengths 0, at least 11 and at most 138.
func zeros(n int) piece { return piece{symbol: 18, v: n - 11, n: 7} }

// headers are streams whose first header is wrong, or all but wrong.
func headers() []stream {
	ends := symbols('a', 256)
	one := lensWith(257, map[int]int{256: 1})
	long := lensWith(257, map[int]int{256: 2})
	return []stream{
		{"kind 3", false, 9, numbers([2]int{7, 3}), "", api.ErrForm},
		{"kind 3, not last", false, 9, numbers([2]int{6, 3}), "", api.ErrForm},
		{"NLEN with a wrong lowest bit", false, 9, numbers([2]int{1, 8}, [2]int{5, 16}, [2]int{0xFFFA ^ 1, 16}), "", api.ErrForm},
		{"NLEN with a wrong highest bit", false, 9, numbers([2]int{1, 8}, [2]int{5, 16}, [2]int{0xFFFA ^ 0x8000, 16}), "", api.ErrForm},
		{"NLEN that is LEN", false, 9, numbers([2]int{1, 8}, [2]int{5, 16}, [2]int{5, 16}), "", api.ErrForm},
		{"HLIT 30", false, 9, numbers([2]int{5, 3}, [2]int{30, 5}), "", api.ErrForm},
		{"HLIT 31, wide", true, 9, numbers([2]int{5, 3}, [2]int{31, 5}), "", api.ErrForm},
		{"HDIST 30", false, 9, numbers([2]int{5, 3}, [2]int{29, 5}, [2]int{30, 5}), "", api.ErrForm},
		{"HDIST 31", false, 9, numbers([2]int{5, 3}, [2]int{29, 5}, [2]int{31, 5}), "", api.ErrForm},
		{"no lengths for lengths", false, 9, begin(257, 1, times(0, 19)), "", api.ErrForm},
		{"lengths for lengths that are Single", false, 9, begin(257, 1, lensWith(19, map[int]int{0: 1})), "", api.ErrForm},
		{"lengths for lengths that are Open", false, 9, begin(257, 1, lensWith(19, map[int]int{0: 1, 1: 2})), "", api.ErrForm},
		{"lengths for lengths that are Over", false, 9, begin(257, 1, lensWith(19, map[int]int{0: 1, 1: 1, 2: 7})), "", api.ErrForm},
		{"nothing to repeat", false, 9, lengthsOf(257, 1, halves(16, 18), symbols(16)...), "", api.ErrForm},
		{"lengths that go on too long, by 16", false, 9, lengthsOf(257, 1, halves(1, 16), append(times1(255), piece{symbol: 16, v: 1, n: 2})...), "", api.ErrForm},
		{"lengths that go on too long, by 17", false, 9, lengthsOf(257, 1, halves(1, 17), append(times1(255), piece{symbol: 17, v: 1, n: 3})...), "", api.ErrForm},
		{"lengths that go on too long, by 18", false, 9, lengthsOf(257, 1, halves(1, 18), zeros(138), zeros(121)), "", api.ErrForm},
		{"no stop", false, 9, lengthsOf(257, 1, halves(1, 18), append([]piece{{symbol: 1}, {symbol: 1}}, zeros(138), zeros(118))...), "", api.ErrForm},
		{"literals that are Open", false, 9, dynamicOf(long, noDistance), "", api.ErrForm},
		{"literals that are Over", false, 9, dynamicOf(lensWith(257, map[int]int{0: 1, 1: 1, 256: 1}), noDistance), "", api.ErrForm},
		{"distances that are Open", false, 9, dynamicOf(twoLiterals, times(2, 1)), "", api.ErrForm},
		{"distances that are Over", false, 9, dynamicOf(twoLiterals, times(1, 3)), "", api.ErrForm},
		{"literals that are Whole", false, 9, dynamicOf(twoLiterals, noDistance, ends...), "a", api.OK},
		{"literals that are Single", false, 9, dynamicOf(one, noDistance, symbols(256)...), "", api.OK},
		{"distances that are Single", false, 9, dynamicOf(twoLiterals, oneDistance, ends...), "a", api.OK},
		{"distances that are Whole", false, 9, dynamicOf(twoLiterals, times(1, 2), ends...), "a", api.OK},
		{"30 distances", false, 9, dynamicOf(twoLiterals, lensWith(30, map[int]int{28: 1, 29: 1}), ends...), "a", api.OK},
		{"31 distances, wide", true, 9, dynamicOf(twoLiterals, times(0, 31), ends...), "a", api.OK},
		{"32 distances, wide", true, 9, dynamicOf(twoLiterals, times(5, 32), ends...), "a", api.OK},
		{"286 literals", false, 9, dynamicOf(lensWith(286, map[int]int{'a': 1, 256: 2, 285: 2}), noDistance, ends...), "a", api.OK},
	}
}

// times1 are n lengths 1.
func times1(n int) []piece { return slices.Repeat([]piece{{symbol: 1}}, n) }

// tokens are streams with tokens that are wrong, or all but wrong.
func tokens() []stream {
	a := piece{symbol: 'a'}
	end := piece{symbol: 256}
	three := piece{symbol: 257}
	matches := lensWith(286, map[int]int{'a': 2, 256: 2, 257: 2, 285: 2})
	deep := lensWith(257, map[int]int{})
	for i := range 15 {
		deep['a'+i] = 1 + i
	}
	deep[256] = 15
	return []stream{
		{"symbol 286", false, 9, fixedOf(a, piece{symbol: 286}), "a", api.ErrForm},
		{"symbol 287, wide", true, 9, fixedOf(a, piece{symbol: 287}), "a", api.ErrForm},
		{"distance symbol 30", false, 9, fixedOf(a, three, far(30, 0, 0)), "a", api.ErrForm},
		{"distance symbol 31", false, 9, fixedOf(a, three, far(31, 0, 0)), "a", api.ErrForm},
		{"a distance of 1 without a byte", false, 9, fixedOf(three, far(0, 0, 0)), "", api.ErrForm},
		{"a distance of 2 behind a byte", false, 9, fixedOf(a, three, far(1, 0, 0)), "a", api.ErrForm},
		{"a far distance behind a byte", true, 9, fixedOf(a, three, far(31, 16383, 14)), "a", api.ErrForm},
		{"a match", false, 9, fixedOf(a, three, far(0, 0, 0), end), "aaaa", api.OK},
		{"a match up to most", false, 4, fixedOf(a, three, far(0, 0, 0), end), "aaaa", api.OK},
		{"a match beyond most", false, 3, fixedOf(a, three), "a", api.ErrLimit},
		{"a literal beyond most", false, 2, fixedOf(a, a, a), "aa", api.ErrLimit},
		{"a match of 258", false, 259, fixedOf(a, piece{symbol: 285}, far(0, 0, 0), end), strings.Repeat("a", 259), api.OK},
		{"a match of 258, otherwise", false, 259, fixedOf(a, piece{false, 284, 31, 5}, far(0, 0, 0), end), strings.Repeat("a", 259), api.OK},
		{"a match of 3, wide", true, 4, fixedOf(a, piece{false, 285, 0, 16}, far(0, 0, 0), end), "aaaa", api.OK},
		{"a match of 65538, wide", true, 65539, fixedOf(a, piece{false, 285, 65535, 16}, far(0, 0, 0), end), strings.Repeat("a", 65539), api.OK},
		{"a match of 65538 beyond most", true, 65538, fixedOf(a, piece{false, 285, 65535, 16}), "a", api.ErrLimit},
		{"bits that are no literal", false, 9, func(w *writer) {
			w.dynamic(true, nil, lensWith(257, map[int]int{256: 1}), noDistance)
			w.Put(1, 1)
		}, "", api.ErrForm},
		{"bits that are no distance", false, 9, func(w *writer) {
			w.dynamic(true, []piece{a, three}, matches, oneDistance)
			w.Put(1, 1)
		}, "a", api.ErrForm},
		{"a match without distances", false, 9, dynamicOf(matches, noDistance, a, three), "a", api.ErrForm},
		{"a match with a Single distance", false, 9, dynamicOf(matches, oneDistance, a, three, far(0, 0, 0), end), "aaaa", api.OK},
		{"code words of all lengths", false, 15, dynamicOf(deep, noDistance, symbols('a', 'b', 'c', 'd', 'e', 'f', 'g', 'h', 'i', 'j', 'k', 'l', 'm', 'n', 'o', 256)...), "abcdefghijklmno", api.OK},
	}
}

// repeated are streams whose lengths are repeated, up to the last one.
func repeated() []stream {
	four := lensWith(19, map[int]int{1: 2, 2: 2, 16: 2, 18: 2})
	// 0 and 1 have a length of 1; all others have none.
	across := []piece{zeros(138), zeros(117), {symbol: 1}, {symbol: 1}, {symbol: 18, v: 19, n: 7}}
	return []stream{
		{"zeros across both codes", false, 9, func(w *writer) {
			w.head(true, 258, 29, across, halves(1, 18))
			w.pieces(symbols(256), lensWith(258, map[int]int{255: 1, 256: 1}), nil)
		}, "", api.OK},
		{"a length across both codes", false, 9, func(w *writer) {
			// The last two of four literals, and the first one of four distances.
			l := []piece{zeros(138), zeros(116), {symbol: 2}, {symbol: 16, v: 1, n: 2}, {symbol: 16, v: 0, n: 2}}
			w.head(true, 258, 4, l, four)
			w.pieces(symbols(256), lensWith(258, map[int]int{254: 2, 255: 2, 256: 2, 257: 2}), nil)
		}, "", api.OK},
		{"a zero that is repeated by 16", false, 9, func(w *writer) {
			six := piece{symbol: 16, v: 3, n: 2}
			l := []piece{zeros(138), zeros(100), six, six, {symbol: 16, v: 2, n: 2}, {symbol: 1}, {symbol: 1}, zeros(11)}
			w.head(true, 257, 11, l, lensWith(19, map[int]int{1: 2, 16: 2, 18: 1}))
			w.pieces(symbols(256), lensWith(257, map[int]int{255: 1, 256: 1}), nil)
		}, "", api.OK},
	}
}

// TestForm is of the bits on which an end of a stream depends: with fewer it
// isn't told, and whatever follows them makes no difference.
func TestForm(t *testing.T) {
	for _, s := range slices.Concat(headers(), tokens(), repeated()) {
		t.Run(s.name, func(t *testing.T) {
			w := begun(s.wide, nil)
			s.write(w)
			n, b := w.Len(), w.Bytes()
			tr := traced(b, s.wide, widest, s.most)
			if string(tr.out) != s.out || tr.code != s.code || tr.end != n {
				t.Fatalf("the model has %q, %d behind %d of %d bits", tr.out, tr.code, tr.end, n)
			}
			for _, behind := range []string{"", "\x00\x00\x00\x00", "\xFF\xFF\xFF\xFF\xFF"} {
				for _, rest := range []byte{0, 0xFF} {
					b := slices.Clone(b)
					if n%8 > 0 {
						b[len(b)-1] |= rest << (n % 8)
					}
					wholly(t, append(b, behind...), s.wide, widest, s.most, source(7))
				}
			}
		})
	}
}

// TestBits is of every place at which the same bits may begin: a code word
// that ends with a byte is told at once.
func TestBits(t *testing.T) {
	for _, s := range slices.Concat(headers(), tokens(), repeated()) {
		for blocks := range 8 {
			w := begun(s.wide, nil)
			for range blocks {
				w.fixed(false, symbols(256)) // ten bits
			}
			s.write(w)
			wholly(t, w.Bytes(), s.wide, widest, s.most, source(8))
		}
	}
}

// TestReach is of the farthest distance of a window.
func TestReach(t *testing.T) {
	for _, size := range []int{1, 2, 100, 32767, usual, usual + 1, widest - 1, widest} {
		for _, more := range []int{0, 1} {
			for _, before := range []int{size, size + 1, 2 * size} {
				w := begun(true, nil)
				for at := 0; at < before; at += 60000 {
					w.stored(false, strings.Repeat("x", min(60000, before-at)))
				}
				if size+more > widest {
					continue
				}
				w.fixed(true, []piece{{symbol: 257}, w.distancePiece(size + more), {symbol: 256}})
				out, _, code := inflate.All(w.Bytes(), true, size, maxBytes)
				if more == 0 && (code != api.OK || len(out) != before+3) || more == 1 && code != api.ErrForm {
					t.Errorf("12.1: a distance of %d in a window of %d is %d", size+more, size, code)
				}
			}
		}
	}
}

// TestStored is of stored blocks of all lengths, and of the byte of them that
// is too many.
func TestStored(t *testing.T) {
	for _, n := range []int{0, 1, 2, 255, 256, 257, 32768, 65534, 65535} {
		s := strings.Repeat("stored", 11000)[:n]
		w := begun(false, nil)
		w.stored(false, s)
		w.stored(true, s)
		b := w.Bytes()
		out, used, code := inflate.All(b, false, 1, 2*n)
		if string(out) != s+s || used != len(b) || code != api.OK {
			t.Errorf("12.1: stored blocks of %d bytes are %d bytes, %d, %d", n, len(out), used, code)
		}
		for _, most := range []int{0, 1, n - 1, n, n + 1, 2*n - 1} {
			if most < 0 || most >= 2*n {
				continue
			}
			header := 5
			if most >= n {
				header = 10
			}
			x := made(t, false, 1, most)
			out, code := x.Push(b[:header+most])
			if string(out) != (s + s)[:most] || code != api.ErrShort {
				t.Errorf("12.1: the first %d bytes of twice %d are %d bytes, %d", most, n, len(out), code)
			}
			if out, code := x.Push(b[header+most:][:1]); len(out) > 0 || code != api.ErrLimit || x.Total() != most {
				t.Errorf("12.1: the byte behind %d bytes is %q, %d", most, out, code)
			}
		}
	}
}

// TestHeld is of a long stream in small parts, of which little may be kept.
func TestHeld(t *testing.T) {
	w := begun(true, source(9))
	w.random(300, 300, widest)
	b := w.Bytes()
	x := made(t, true, widest, maxBytes)
	for _, c := range b[:len(b)-1] {
		if _, code := x.Push([]byte{c}); code != api.ErrShort || x.Held() > mostHeld {
			t.Fatalf("12.1: %d bytes are held, with %d", x.Held(), code)
		}
	}
	if _, code := x.Push(append(b[len(b)-1:], make([]byte, 10000)...)); code != api.OK || x.Held() != 0 || x.Used() != len(b) {
		t.Errorf("12.1: %d bytes are held behind the stream, with %d and %d used", x.Held(), code, x.Used())
	}
}
