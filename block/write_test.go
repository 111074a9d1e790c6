package block_test

import (
	"bytes"
	"compress/flate"
	"io"
	"math/rand/v2"
	"slices"
	"strings"
	"sync"
	"testing"

	"stevedore/api"
	"stevedore/bits"
	"stevedore/block"
	"stevedore/inflate"
	"stevedore/lz"
	finder "stevedore/match"
)

// noise returns n bytes that follow no short rule, the same ones every time.
func noise(n int, seed byte) string {
	b := make([]byte, n)
	rand.NewChaCha8([32]byte{seed}).Read(b)
	return string(b)
}

// random returns n tokens that are valid one after another; short matches are
// as frequent as long ones.
func random(r *rand.Rand, n int, wide bool) []api.Token {
	length, dist := greatest(wide)
	var l []api.Token
	total, several := 0, 1<<r.IntN(9)
	for range n {
		if total == 0 || r.IntN(2) == 0 {
			l = append(l, api.Token{Byte: byte(r.IntN(several))})
			total++
			continue
		}
		x := match(
			shortest+r.IntN(min(1<<r.IntN(17), length-shortest+1)),
			1+r.IntN(min(1<<r.IntN(17), dist, total)))
		l = append(l, x)
		total += x.Len
	}
	return l
}

// expanded returns the bytes that tokens describe.
func expanded(t *testing.T, l []api.Token, wide bool) string {
	t.Helper()
	b, _, code := lz.Expand(l, wide)
	if code != api.OK {
		t.Fatalf("these tokens have an error: %d", code)
	}
	return string(b)
}

// ahead is the byte that begun writes as often as it is told.
const ahead = 0xee

// begun returns a writer of n blocks ahead of what is tested, each of 19 bits:
// with n from 0 to 7 it ends at any position in a byte.
func begun(n int) *bits.Writer {
	w := bits.NewWriter()
	for range n {
		w.Put(2, 3)
		w.Code(0x190+ahead-144, 9)
		w.Code(0, 7)
	}
	return w
}

// ended returns all bits, and an empty last block behind them.
func ended(w *bits.Writer) []byte {
	w.Put(3, 3)
	w.Put(0, 7)
	return w.Bytes()
}

// unpacks inflates a whole stream, twice if another inflater reads it too.
func unpacks(t *testing.T, b []byte, wide bool, want string) {
	t.Helper()
	out, used, code := inflate.All(b, wide, farthest64, maxBytes)
	if string(out) != want || used != len(b) || code != api.OK {
		t.Fatalf("14.4: %d bytes (%.40x) inflate to %d bytes (%.40x), %d, %d, not to %d (%.40x)", len(b), b, len(out), out, used, code, len(want), want)
	}
	if wide {
		return
	}
	if out, err := io.ReadAll(flate.NewReader(bytes.NewReader(b))); string(out) != want || err != nil {
		t.Fatalf("14.4: %d bytes (%.40x) mean something else to others: %v", len(b), b, err)
	}
}

// bounded asks whether the bits that Write has written are not too many.
func bounded(t *testing.T, n int, l []api.Token, wide bool) {
	t.Helper()
	if most := block.Fixed(l, wide); n > most {
		t.Fatalf("14.3: %d tokens, %t, take %d bits, more than the %d of a block of kind 1", len(l), wide, n, most)
	}
	if most := 8*block.Stored(lz.Size(l)) + 8; n > most {
		t.Fatalf("14.3: %d tokens, %t, take %d bits, more than the %d of stored blocks", len(l), wide, n, most)
	}
}

// writes asks Write for tokens behind a number of other blocks.
func writes(t *testing.T, l []api.Token, wide bool, blocks int) {
	t.Helper()
	want := strings.Repeat(string([]byte{ahead}), blocks) + expanded(t, l, wide)
	before := slices.Clone(l)
	w := begun(blocks)
	at := w.Len()
	if code := block.Write(w, l, wide, true); code != api.OK {
		t.Fatalf("14.3: Write of %d tokens, %t, is %d", len(l), wide, code)
	}
	bounded(t, w.Len()-at, l, wide)
	unpacks(t, w.Bytes(), wide, want)

	w = begun(blocks)
	if code := block.Write(w, l, wide, false); code != api.OK {
		t.Fatalf("14.3: Write of %d tokens, %t, is %d", len(l), wide, code)
	}
	bounded(t, w.Len()-at, l, wide)
	if _, _, code := inflate.All(w.Bytes(), wide, farthest64, maxBytes); code != api.ErrForm {
		t.Fatalf("14.3: a block is marked as the last one, though last isn't set: %d", code)
	}
	unpacks(t, ended(w), wide, want)
	if !slices.Equal(l, before) {
		t.Fatal("14.3: Write changes the tokens")
	}
}

// everywhere asks Write for tokens at every position in a byte.
func everywhere(t *testing.T, l []api.Token) {
	t.Helper()
	for blocks := range 8 {
		for _, wide := range []bool{false, true} {
			writes(t, l, wide, blocks)
		}
	}
}

// often returns tokens of bytes that occur so often.
func often(counts ...int) []api.Token {
	var l []api.Token
	for c, n := range counts {
		l = append(l, slices.Repeat([]api.Token{{Byte: byte(c)}}, n)...)
	}
	return l
}

func TestWriteShort(t *testing.T) {
	everywhere(t, nil)
	everywhere(t, []api.Token{})
	for _, b := range []string{"a", "\x00", "\xff", "\x8f", "\x90", "ab", "aaaaaaaaaaaaaaaaaaaa", "\xff\xfe\xfd\xfc\xfb", strings.Repeat("\xff", 300)} {
		everywhere(t, literals(b))
	}
	everywhere(t, append(literals("a"), match(3, 1)))
	everywhere(t, append(literals("a"), match(258, 1)))
	everywhere(t, append(literals("ab"), match(5, 2), match(4, 7)))
	writes(t, append(literals("a"), match(259, 1), match(258, 2), match(65538, 1)), true, 3)
}

// TestWriteSymbols has tokens with every literal, every length symbol and every
// distance symbol, with the smallest and the greatest value of its extra bits.
func TestWriteSymbols(t *testing.T) {
	var all []byte
	for c := range 256 {
		all = append(all, byte(c))
	}
	everywhere(t, literals(string(all)))
	for _, wide := range []bool{false, true} {
		length, dist := greatest(wide)
		l := literals(string(all))
		for range dist / longest {
			l = append(l, match(longest, 256))
		}
		for symbol := range 300 {
			if least, extra, ok := inflate.Base(symbol, wide); ok {
				l = append(l, match(least, 7), match(min(length, least+1<<extra-1), 7))
			}
			if least, extra, ok := inflate.Far(symbol, wide); ok {
				l = append(l, match(3, least), match(3, least+1<<extra-1))
			}
		}
		writes(t, l, wide, 5)
		for n := shortest; n <= longest; n++ {
			writes(t, append(literals("ab"), match(n, 2), match(n, 1)), wide, n%8)
		}
	}
}

func TestWriteRandom(t *testing.T) {
	r := source(2)
	for i := range 600 {
		wide := i%2 == 0
		writes(t, random(r, r.IntN(1<<r.IntN(10)), wide), wide, r.IntN(8))
	}
}

// TestWriteNoise has bytes that are best stored: behind any position, and in
// more than one block.
func TestWriteNoise(t *testing.T) {
	for _, n := range []int{1, 2, 3, 20, 100, 5000} {
		everywhere(t, literals(noise(n, 1)))
	}
	for i, n := range []int{full - 1, full, full + 1, 2 * full, 2*full + 1, 200000} {
		writes(t, literals(noise(n, 2)), false, i)
		writes(t, literals(noise(n, 3)), true, i+2)
	}
	mixed := literals(noise(70000, 4))
	for dist := 1; dist <= farthest; dist *= 2 {
		mixed = append(mixed, match(3, dist), match(4, dist))
		mixed = append(mixed, literals(noise(50, byte(dist)))...)
	}
	everywhere(t, mixed)
	writes(t, append(mixed, match(9, farthest64), match(65538, 70000-9000)), true, 1)
}

// TestWriteClose has bytes for which blocks of the kinds 0 and 1 take nearly
// the same, and those of kind 2 more.
func TestWriteClose(t *testing.T) {
	r := source(5)
	for n := 20; n < 50; n++ {
		var l []api.Token
		for _, c := range r.Perm(256 - 144)[:n] {
			l = append(l, api.Token{Byte: byte(144 + c)})
		}
		everywhere(t, l)
	}
}

// TestWriteSteep has counts that would give longer code words than there may
// be.
func TestWriteSteep(t *testing.T) {
	counts := []int{1, 1}
	for len(counts) < 22 {
		counts = append(counts, counts[len(counts)-1]+counts[len(counts)-2])
	}
	writes(t, often(counts...), false, 0)
	writes(t, often(counts...), true, 1)
	slices.Reverse(counts)
	writes(t, often(counts...), false, 2)
	l := literals("x")
	for symbol, n := range counts { // the same for distances
		least, _, _ := inflate.Far(symbol, false)
		for range n {
			l = append(l, match(3, min(least, lz.Size(l[:min(len(l), 1<<14)]))))
		}
	}
	writes(t, l, false, 3)
}

// TestWriteGaps has runs of bytes that occur and of such as don't, of any
// length.
func TestWriteGaps(t *testing.T) {
	for gap := range 255 {
		counts := make([]int, 256)
		counts[0], counts[gap+1] = 300, 300
		writes(t, often(counts...), gap%2 == 0, gap%8)
		run := slices.Concat(make([]int, 255-gap), slices.Repeat([]int{7 + gap%3}, gap+1))
		writes(t, often(run...), gap%2 == 1, gap%7)
	}
}

func TestWriteTexts(t *testing.T) {
	texts := []string{
		strings.Repeat("some text, ", 500), strings.Repeat("a", 100000), noise(3000, 5) + strings.Repeat("abc", 3000) + noise(3000, 6),
		string(slices.Repeat([]byte{1, 2, 3, 200, 201}, 777)),
	}
	plans := []api.Plan{{Store: true}, {Chain: 1, Good: 8}, {Chain: 32, Good: 64, Lazy: true}}
	for i, text := range texts {
		for j, p := range plans {
			for _, wide := range []bool{false, true} {
				writes(t, finder.Tokens([]byte(text), p, wide), wide, i+j)
			}
		}
	}
}

// TestWriteFits has tokens for which blocks with codes of their own are far
// smaller than all others.
func TestWriteFits(t *testing.T) {
	l := often(slices.Concat(make([]int, 144), []int{2000, 2000, 1000, 1000, 1000, 1000})...)
	w := bits.NewWriter()
	block.Write(w, l, false, true)
	if n, fixed := w.Len(), block.Fixed(l, false); n > fixed*2/5 {
		t.Errorf("14.3: %d bits where those of fixed codes are %d", n, fixed)
	}
}

// TestWriteSeveral writes one after another to one writer.
func TestWriteSeveral(t *testing.T) {
	r := source(3)
	for i := range 100 {
		wide := i%2 == 0
		w := bits.NewWriter()
		want := ""
		for parts := 1 + r.IntN(9); parts > 0; parts-- {
			last := parts == 1
			if r.IntN(3) == 0 {
				b := noise(r.IntN(1<<r.IntN(18)), byte(i))
				block.Store(w, []byte(b), last)
				want += b
				continue
			}
			l := random(r, r.IntN(100), wide)
			if r.IntN(3) == 0 {
				l = literals(noise(r.IntN(400), byte(i)))
			}
			if code := block.Write(w, l, wide, last); code != api.OK {
				t.Fatalf("14.3: Write is %d", code)
			}
			want += expanded(t, l, wide)
		}
		unpacks(t, w.Bytes(), wide, want)
	}
}

// TestWriteMany has tokens of more bytes than can be expanded.
func TestWriteMany(t *testing.T) {
	l := append(literals("a"), slices.Repeat([]api.Token{match(longest64, 1)}, maxBytes/longest64+1)...)
	w := begun(3)
	at := w.Len()
	if code := block.Write(w, l, true, true); code != api.OK {
		t.Fatalf("14.3: Write of %d bytes is %d", lz.Size(l), code)
	}
	bounded(t, w.Len()-at, l, true)
	x, _ := inflate.New(true, 1, 1<<20)
	x.Push(w.Bytes())
	if _, code := x.End(); code != api.ErrLimit {
		t.Errorf("14.4: they inflate to less than a million bytes: %d", code)
	}
}

// refuses asks Write for tokens that have an error.
func refuses(t *testing.T, l []api.Token, wide bool) {
	t.Helper()
	for blocks := range 3 {
		for _, last := range []bool{false, true} {
			w := begun(blocks)
			n, b := w.Len(), w.Bytes()
			if code := block.Write(w, l, wide, last); code != api.ErrArg {
				t.Fatalf("14.3: Write of %v, %t, is %d", l, wide, code)
			}
			if w.Len() != n || !bytes.Equal(w.Bytes(), b) {
				t.Fatalf("14.3: Write of %v, %t, is refused, but writes", l, wide)
			}
			if code := block.Write(w, literals("fine"), wide, true); code != api.OK {
				t.Fatalf("14.3: Write behind an error is %d", code)
			}
			unpacks(t, w.Bytes(), wide, strings.Repeat(string([]byte{ahead}), blocks)+"fine")
		}
	}
}

func TestWriteErrors(t *testing.T) {
	for _, wide := range []bool{false, true} {
		for _, l := range [][]api.Token{nil, literals("a"), {match(1, 0)}} {
			if code := block.Write(nil, l, wide, true); code != api.ErrArg {
				t.Errorf("14.3: Write to nothing is %d", code)
			}
		}
		for _, x := range invalid(wide) {
			for at := range 4 {
				refuses(t, slices.Insert(append(literals("ab"), match(3, 2)), at, x), wide)
			}
		}
		for _, l := range [][]api.Token{nil, literals("a"), literals("abc"), append(literals("abc"), match(258, 3)), append(literals("a"), match(3, 1), match(4, 2))} {
			n := lz.Size(l)
			refuses(t, append(slices.Clone(l), match(3, n+1)), wide)
			refuses(t, append(append(slices.Clone(l), match(3, n+1)), literals("abcdefgh")...), wide)
			if n > 0 {
				writes(t, append(slices.Clone(l), match(3, n)), wide, 1)
			}
		}
	}
	long := append(literals("a"), slices.Repeat([]api.Token{match(258, 1)}, 300)...)
	refuses(t, append(slices.Clone(long), match(259, 1)), false)
	refuses(t, append(slices.Clone(long), match(3, 32769)), false)
	writes(t, append(slices.Clone(long), match(259, 1), match(3, 32769)), true, 0)
	w := begun(1) // what stands in w already doesn't count
	if code := block.Write(w, []api.Token{match(3, 1)}, false, true); code != api.ErrArg {
		t.Errorf("14.3: a match of a byte that was written earlier is %d", code)
	}
}

// stored returns the bytes of stored blocks behind n bits 1.
func stored(n int, b string, last bool) []byte {
	out := []byte{1<<n - 1}
	for {
		part := b[:min(len(b), full)]
		b = b[len(part):]
		if last && len(b) == 0 {
			out[len(out)-1] |= 1 << n
		}
		if n > 5 { // the kind doesn't fit in
			out = append(out, 0)
		}
		out = append(out, byte(len(part)), byte(len(part)>>8), ^byte(len(part)), ^byte(len(part)>>8))
		out = append(out, part...)
		if len(b) == 0 {
			return out
		}
		n, out = 0, append(out, 0)
	}
}

func TestStore(t *testing.T) {
	for _, n := range []int{0, 1, 2, 255, 256, 257, full - 1, full, full + 1, 2*full - 1, 2 * full, 2*full + 1, 200000} {
		text := noise(n, 7)
		for before := range 8 {
			for _, last := range []bool{false, true} {
				w := bits.NewWriter()
				w.Put(0xff, before)
				b := []byte(text)
				block.Store(w, b, last)
				if string(b) != text {
					t.Fatal("14.3: Store changes the bytes")
				}
				clear(b)
				if out, want := w.Bytes(), stored(before, text, last); !bytes.Equal(out, want) {
					t.Fatalf("14.3: Store of %d bytes behind %d bits is %.20x, not %.20x", n, before, out, want)
				}
				if w.Len()%8 > 0 {
					t.Fatalf("14.3: Store of %d bytes ends with %d bits", n, w.Len())
				}
			}
		}
		for blocks := range 8 {
			want := strings.Repeat(string([]byte{ahead}), blocks) + text
			w := begun(blocks)
			block.Store(w, []byte(text), true)
			unpacks(t, w.Bytes(), false, want)
			w = begun(blocks)
			block.Store(w, []byte(text), false)
			unpacks(t, ended(w), true, want)
		}
	}
	block.Store(nil, nil, true) // to nothing; it doesn't panic
	block.Store(nil, []byte("abc"), false)
}

// TestSame asks for the same several times, at the same time.
func TestSame(t *testing.T) {
	l := random(source(4), 3000, false)
	var all [8][]byte
	var group sync.WaitGroup
	for i := range all {
		group.Go(func() {
			var w bits.Writer
			block.Write(&w, l, false, false)
			block.Write(&w, literals(noise(999, 8)), false, true)
			all[i] = w.Bytes()
		})
	}
	group.Wait()
	for _, b := range all {
		if !bytes.Equal(b, all[0]) {
			t.Fatal("14.3: the same tokens are written in another way")
		}
	}
}
