package table_test

import (
	"math"
	"math/rand/v2"
	"slices"
	"sync"
	"testing"

	"stevedore/api"
	"stevedore/canon"
	"stevedore/table"
)

// fixed are the lengths of the literals of a block of kind 1 (chapter 12).
func fixed() []int { return slices.Concat(many(144, 8), many(112, 9), many(24, 7), many(8, 8)) }

// many are n lengths, all the same.
func many(n, length int) []int { return slices.Repeat([]int{length}, n) }

// steps are lengths of which each has one code word, but the last one two.
func steps() []int { return []int{1, 2, 3, 4, 5, 6, 7, 8, 9, 10, 11, 12, 13, 14, 15, 15} }

// short are all lists of up to three lengths that make a code.
func short() [][]int {
	all := [][]int{nil, {}}
	for a := range 16 {
		all = append(all, []int{a})
		for b := range 16 {
			all = append(all, []int{a, b})
			for c := range 16 {
				if lens := []int{a, b, c}; canon.Kind(lens) != canon.Over {
					all = append(all, lens)
				}
			}
		}
	}
	return all
}

// long are lists of many lengths: codes that use up all strings of bits, and
// such that don't.
func long() [][]int {
	r := rand.New(rand.NewPCG(8, 1))
	all := [][]int{fixed(), many(32, 5), steps(), many(32768, 15), many(32767, 15), append(many(65535, 0), 15)}
	for range 40 {
		lens := split(r, 1+r.IntN(300), 1+r.IntN(15))
		all = append(all, lens, without(r, lens))
	}
	return all
}

// split returns the lengths of a code of about n symbols that uses up all
// strings of bits, with code words of at most so many bits, and some symbols
// without one.
func split(r *rand.Rand, n, most int) []int {
	lens := []int{1, 1}
	for range n {
		if i := r.IntN(len(lens)); lens[i] < most {
			lens[i]++
			lens = append(lens, lens[i])
		}
	}
	lens = append(lens, many(r.IntN(20), 0)...)
	r.Shuffle(len(lens), func(i, j int) { lens[i], lens[j] = lens[j], lens[i] })
	return lens
}

// without returns lens with some symbols less.
func without(r *rand.Rand, lens []int) []int {
	less := slices.Clone(lens)
	for range 1 + r.IntN(9) {
		less[r.IntN(len(less))] = 0
	}
	return less
}

// answer is what Find answers.
type answer struct {
	symbol, length int
	code           api.Errno
}

func find(x *table.Table, v uint32, n int) answer {
	symbol, length, code := x.Find(v, n)
	return answer{symbol, length, code}
}

// model has the code words as texts of 0 and 1, and what begins with them.
type model struct {
	whole map[string]answer
	part  map[string]bool
}

func text(word uint32, n int) string {
	b := make([]byte, n)
	for i := range b {
		b[i] = '0' + byte(word>>(n-1-i)&1)
	}
	return string(b)
}

func modelOf(t *testing.T, lens []int) model {
	t.Helper()
	words, code := canon.Codes(lens)
	if code != api.OK {
		t.Fatalf("%v make no code", lens)
	}
	m := model{map[string]answer{}, map[string]bool{}}
	for i, n := range lens {
		if n == 0 {
			continue
		}
		word := text(words[i], n)
		m.whole[word] = answer{i, n, api.OK}
		for k := range n {
			m.part[word[:k]] = true
		}
	}
	return m
}

func (m model) find(v uint32, n int) answer {
	n = min(max(n, 0), 15)
	stream := make([]byte, n)
	for i := range stream {
		stream[i] = '0' + byte(v>>i&1)
	}
	for k := 1; k <= n; k++ {
		if a, ok := m.whole[string(stream[:k])]; ok {
			return a
		}
	}
	if m.part[string(stream)] {
		return answer{0, 0, api.ErrShort}
	}
	return answer{0, 0, api.ErrForm}
}

func made(t *testing.T, lens []int, first int) *table.Table {
	t.Helper()
	x, code := table.New(lens, first)
	if x == nil || code != api.OK {
		t.Fatalf("8.1: New of %d lengths with first %d: %d", len(lens), first, code)
	}
	return x
}

// wider has one more bit behind those that Find looks at, and all of them.
func wider(v uint32, n int) []uint32 {
	return []uint32{v, v | 1<<n, v | ^uint32(0)<<n}
}

func TestFindOfShortLists(t *testing.T) {
	for _, lens := range short() {
		m := modelOf(t, lens)
		firsts := []int{1, 2, 3, 7, 9, 14, 15}
		for _, first := range firsts {
			x := made(t, lens, first)
			for n := range 6 {
				for v := range uint32(1) << n {
					for _, w := range wider(v, n) {
						if got, want := find(x, w, n), m.find(w, n); got != want {
							t.Fatalf("8.1: lengths %v, first %d: Find(%b, %d) is %v, not %v", lens, first, w, n, got, want)
						}
					}
				}
			}
			for n := 6; n <= 15; n++ {
				for _, v := range []uint32{0, 1, 1 << (n - 1), 1<<n - 1, 1<<n - 2, 1<<(n-1) - 1} {
					if got, want := find(x, v, n), m.find(v, n); got != want {
						t.Fatalf("8.1: lengths %v, first %d: Find(%b, %d) is %v, not %v", lens, first, v, n, got, want)
					}
				}
			}
		}
	}
}

func TestFindOfLongLists(t *testing.T) {
	r := rand.New(rand.NewPCG(8, 2))
	for _, lens := range long() {
		m := modelOf(t, lens)
		for first := 1; first <= 15; first++ {
			x := made(t, lens, first)
			for range 500 {
				v, n := r.Uint32(), r.IntN(19)-1
				if got, want := find(x, v, n), m.find(v, n); got != want {
					t.Fatalf("8.1: %d lengths, first %d: Find(%b, %d) is %v, not %v", len(lens), first, v, n, got, want)
				}
			}
		}
	}
}

func TestEveryWordIsFound(t *testing.T) {
	for _, lens := range long() {
		for first := 1; first <= 15; first += 2 {
			x := made(t, lens, first)
			for word, want := range modelOf(t, lens).whole {
				var v uint32
				for i, bit := range word {
					v |= uint32(bit-'0') << i
				}
				for n := len(word); n <= 15; n++ {
					if got := find(x, v, n); got != want {
						t.Fatalf("8.1: %d lengths, first %d: %s is %v, not %v", len(lens), first, word, got, want)
					}
				}
				for n := range len(word) {
					if got := find(x, v, n); got != (answer{0, 0, api.ErrShort}) {
						t.Fatalf("8.1: %d lengths, first %d: %d bits of %s are %v", len(lens), first, n, word, got)
					}
				}
			}
		}
	}
}

func TestFindOfExamples(t *testing.T) {
	const ok, short, form = api.OK, api.ErrShort, api.ErrForm
	for _, c := range []struct {
		lens []int
		v    uint32
		n    int
		want answer
	}{
		{[]int{2, 1, 3, 3}, 0b01, 2, answer{0, 2, ok}},
		{[]int{2, 1, 3, 3}, 0b11, 2, answer{0, 0, short}},
		{[]int{2, 1, 3, 3}, 0b011, 3, answer{2, 3, ok}},
		{[]int{2, 1, 3, 3}, 0b111, 3, answer{3, 3, ok}},
		{[]int{2, 1, 3, 3}, 0b110, 3, answer{1, 1, ok}},
		{[]int{2, 1, 3, 3}, 0b110, 0, answer{0, 0, short}},
		{[]int{1}, 0, 1, answer{0, 1, ok}},
		{[]int{1}, 1, 1, answer{0, 0, form}},
		{[]int{1}, 1, 0, answer{0, 0, short}},
		{[]int{0, 2}, 0b10, 1, answer{0, 0, short}},
		{[]int{0, 2}, 0b10, 2, answer{0, 0, form}},
		{[]int{0, 2}, 0b01, 1, answer{0, 0, form}},
		{[]int{15}, 0, 14, answer{0, 0, short}},
		{[]int{15}, 0, 15, answer{0, 15, ok}},
		{[]int{15}, 1 << 14, 15, answer{0, 0, form}},
		{[]int{15}, 1 << 14, 14, answer{0, 0, short}},
		{append(many(65535, 0), 1), 0, 1, answer{65535, 1, ok}},
		{append(many(65535, 0), 15), 1 << 15, 32, answer{65535, 15, ok}},
		{many(32768, 15), 0x7FFF, 15, answer{32767, 15, ok}},
		{many(32768, 15), 1, 15, answer{16384, 15, ok}},
	} {
		for first := 1; first <= 15; first++ {
			if got := find(made(t, c.lens, first), c.v, c.n); got != c.want {
				t.Errorf("8.1: %d lengths, first %d: Find(%b, %d) is %v, not %v", len(c.lens), first, c.v, c.n, got, c.want)
			}
		}
	}
}

func TestNumbersOfBits(t *testing.T) {
	for _, lens := range [][]int{{2, 1, 3, 3}, {1}, {15}, nil, many(32767, 15), steps()} {
		for _, first := range []int{1, 3, 9, 15} {
			x := made(t, lens, first)
			for _, v := range []uint32{0, 1, 0x3FFF, 0x7FFF, 0x8000, 0xFFFF8000, math.MaxUint32} {
				for _, n := range []int{-1, -2, -15, -64, math.MinInt32, math.MinInt} {
					if find(x, v, n) != find(x, v, 0) {
						t.Errorf("8.1: Find(%b, %d) isn't as with 0 bits", v, n)
					}
				}
				for _, n := range []int{16, 17, 31, 32, 33, 64, 1 << 32, math.MaxInt} {
					if find(x, v, n) != find(x, v, 15) {
						t.Errorf("8.1: Find(%b, %d) isn't as with 15 bits", v, n)
					}
				}
			}
		}
	}
}

func TestNoWords(t *testing.T) {
	for _, lens := range [][]int{nil, {}, {0}, many(19, 0), many(65536, 0)} {
		for first := 1; first <= 15; first++ {
			x := made(t, lens, first)
			for n := -1; n <= 16; n++ {
				for _, v := range []uint32{0, 1, math.MaxUint32} {
					if got := find(x, v, n); got != (answer{0, 0, api.ErrForm}) {
						t.Fatalf("8.1: Find(%d, %d) of no code words is %v", v, n, got)
					}
				}
			}
		}
	}
}

func TestErrorsOfNew(t *testing.T) {
	firsts := []int{math.MinInt, -1 << 32, -1, 0, 1, 9, 15, 16, 17, 63, 64, 65, 1 << 32, 1<<32 + 9, math.MaxInt}
	for _, c := range []struct {
		lens []int
		want api.Errno
	}{
		{[]int{1}, api.OK}, {nil, api.OK}, {[]int{2, 1, 3, 3}, api.OK}, {many(32768, 15), api.OK}, {many(65536, 0), api.OK},
		{[]int{16}, api.ErrRange}, {[]int{-1}, api.ErrRange}, {[]int{1, 1, 1, 16}, api.ErrRange}, {many(65537, 0), api.ErrRange},
		{[]int{math.MinInt}, api.ErrRange}, {[]int{math.MaxInt}, api.ErrRange}, {[]int{1 << 32}, api.ErrRange},
		{[]int{1, 1, 1}, api.ErrForm}, {[]int{1, 1, 15}, api.ErrForm}, {many(32769, 15), api.ErrForm},
	} {
		for _, first := range firsts {
			want := c.want
			if want == api.OK && (first < 1 || first > 15) {
				want = api.ErrArg
			}
			x, code := table.New(c.lens, first)
			if code != want || (x == nil) != (want != api.OK) {
				t.Errorf("8.1: New of %d lengths with first %d is %d, not %d", len(c.lens), first, code, want)
			}
		}
	}
}

func TestSize(t *testing.T) {
	for _, lens := range append(long(), nil, []int{0}, []int{1}, []int{15}, []int{0, 15}, []int{14, 15, 1}) {
		longest := 0
		for _, n := range lens {
			longest = max(longest, n)
		}
		for first := 1; first <= 15; first++ {
			size := made(t, lens, first).Size()
			if size > 1<<first+1<<15 || size < 1 {
				t.Errorf("8.1: Size of %d lengths with first %d is %d", len(lens), first, size)
			}
			if longest <= first && size > 1<<first {
				t.Errorf("8.1: Size of %d lengths with first %d is %d: no code word is longer", len(lens), first, size)
			}
		}
	}
}

func TestTableThatNobodyMade(t *testing.T) {
	var none *table.Table
	for _, n := range []int{math.MinInt, -1, 0, 1, 15, 16, math.MaxInt} {
		for _, v := range []uint32{0, 1, math.MaxUint32} {
			if got := find(none, v, n); got != (answer{0, 0, api.ErrArg}) {
				t.Errorf("8.1: Find(%d, %d) of a nil Table is %v", v, n, got)
			}
			if got := find(&table.Table{}, v, n); got != (answer{0, 0, api.ErrForm}) {
				t.Errorf("8.1: Find(%d, %d) of a zero Table is %v", v, n, got)
			}
		}
	}
	if none.Size() != 0 || new(table.Table).Size() != 0 {
		t.Error("8.1: Size of a nil Table, or of a zero one, isn't 0")
	}
}

func TestFirstIsNotSeen(t *testing.T) {
	lists := append(long(), []int{2, 1, 3, 3}, []int{1}, []int{15}, []int{3, 9, 10, 10}, []int{0, 14, 1, 13})
	for _, lens := range lists {
		one := made(t, lens, 15)
		for first := 1; first < 15; first++ {
			x := made(t, lens, first)
			for v := uint32(0); v < 1<<15; v += 1 + uint32(first)%3 {
				n := int(v+uint32(first)) % 16
				if a, b := find(x, v, 15), find(one, v, 15); a != b {
					t.Fatalf("8.2: %d lengths: Find(%b, 15) is %v with first %d, %v with 15", len(lens), v, a, first, b)
				}
				if a, b := find(x, v, n), find(one, v, n); a != b {
					t.Fatalf("8.2: %d lengths: Find(%b, %d) is %v with first %d, %v with 15", len(lens), v, n, a, first, b)
				}
			}
		}
	}
}

// TestStream decodes bits of many symbols one behind the other.
func TestStream(t *testing.T) {
	r := rand.New(rand.NewPCG(8, 3))
	lens := split(r, 280, 15)
	words, _ := canon.Codes(lens)
	var stream string
	var symbols []int
	for range 2000 {
		if i := r.IntN(len(lens)); lens[i] > 0 {
			symbols = append(symbols, i)
			stream += text(words[i], lens[i])
		}
	}
	for _, first := range []int{1, 7, 9, 10, 15} {
		x := made(t, lens, first)
		at := 0
		for _, want := range symbols {
			var v uint32
			n := min(20, len(stream)-at)
			for i := range n {
				v |= uint32(stream[at+i]-'0') << i
			}
			if got := find(x, v, n); got != (answer{want, lens[want], api.OK}) {
				t.Fatalf("8.1: first %d: at bit %d stands symbol %d, not %v", first, at, want, got)
			}
			at += lens[want]
		}
	}
}

func TestNothingKept(t *testing.T) {
	lens := []int{2, 1, 3, 3}
	x := made(t, lens, 2)
	if !slices.Equal(lens, []int{2, 1, 3, 3}) {
		t.Error("8.1: New changed the lengths")
	}
	for i := range lens {
		lens[i] = 9
	}
	y := made(t, []int{1, 1}, 2)
	if got := find(x, 0b01, 2); got != (answer{0, 2, api.OK}) {
		t.Errorf("8.1: the Table hangs on the lengths that were given: %v", got)
	}
	if got := find(y, 1, 1); got != (answer{1, 1, api.OK}) {
		t.Errorf("8.1: two Tables share what they have: %v", got)
	}
}

// TestTogether is of rule 3: Find changes nothing, so several may ask at once.
func TestTogether(t *testing.T) {
	x := made(t, fixed(), 7)
	want := find(x, 0b111, 15)
	var group sync.WaitGroup
	for range 8 {
		group.Go(func() {
			for v := range uint32(1000) {
				find(x, v, int(v%16))
			}
			if find(x, 0b111, 15) != want {
				t.Error("8.1: Find answers otherwise the next time")
			}
		})
	}
	group.Wait()
}
