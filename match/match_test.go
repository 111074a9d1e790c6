package match_test

import (
	"bytes"
	"math"
	"math/rand/v2"
	"slices"
	"strings"
	"sync"
	"testing"

	"stevedore/api"
	"stevedore/lz"
	"stevedore/match"
)

// What chapter 13 allows: the lengths and the distances of matches.
const (
	shortest   = 3
	longest    = 258
	longest64  = 65538
	farthest   = 32768
	farthest64 = 65536
)

// plain looks at a few places, and takes none of them at once.
var plain = api.Plan{Chain: 8, Good: 100}

// levels are the plans of chapter 15, and some that no level has.
var levels = []api.Plan{
	{Store: true},
	{Chain: 1, Good: 8},
	{Chain: 4, Good: 8},
	{Chain: 8, Good: 16},
	{Chain: 8, Good: 16, Lazy: true},
	{Chain: 32, Good: 64, Lazy: true},
	{Chain: 1024, Good: 258, Lazy: true},
	{},
	{Lazy: true, Good: 9},
	{Chain: -1, Good: 9, Lazy: true},
	{Chain: math.MinInt, Good: math.MinInt},
	{Chain: 3},
	{Chain: 3, Lazy: true},
	{Chain: math.MaxInt, Good: -1, Lazy: true},
	{Chain: math.MaxInt, Good: math.MinInt},
	{Chain: math.MaxInt, Good: math.MaxInt},
	{Chain: math.MaxInt, Good: math.MaxInt, Lazy: true},
	{Chain: math.MaxInt, Good: math.MaxInt, Lazy: true, Store: true},
}

// mixed returns n bytes of the first kinds letters, which follow no short rule,
// the same ones every time.
func mixed(n, kinds int, seed uint64) []byte {
	r := rand.New(rand.NewPCG(13, seed))
	b := make([]byte, n)
	for i := range b {
		b[i] = 'a' + byte(r.IntN(kinds))
	}
	return b
}

// woven returns n bytes with many matches: pieces of what stands before them,
// long and short, near and far, with other bytes between them.
func woven(n int, seed uint64) []byte {
	r := rand.New(rand.NewPCG(13, seed))
	b := mixed(5, 200, seed)
	for len(b) < n {
		from := r.IntN(len(b))
		to := min(len(b), from+1+r.IntN(1+r.IntN(400)))
		b = append(b, b[from:to]...)
		if r.IntN(3) == 0 {
			b = append(b, byte(r.IntN(256)))
		}
	}
	return b[:n]
}

// greatest returns what a match may have at most.
func greatest(wide bool) (length, dist int) {
	if wide {
		return longest64, farthest64
	}
	return longest, farthest
}

// candidates are the distances of the places that are looked at for a match at
// an index, as promise 13.1 has them, the nearest one first.
func candidates(b []byte, p api.Plan, wide bool, at int) []int {
	var l []int
	_, most := greatest(wide)
	if at < 0 || at > len(b)-shortest {
		return nil
	}
	for dist := 1; dist <= min(at, most) && len(l) < p.Chain; dist++ {
		if string(b[at-dist:at-dist+shortest]) == string(b[at:at+shortest]) {
			l = append(l, dist)
		}
	}
	return l
}

// found is promise 13.1's definition of what Find returns.
func found(b []byte, p api.Plan, wide bool, at int) (length, dist int) {
	most, _ := greatest(wide)
	for _, d := range candidates(b, p, wide, at) {
		n := 0
		for n < most && at+n < len(b) && b[at-d+n] == b[at+n] {
			n++
		}
		if n >= max(1, p.Good) {
			return n, d
		}
		if n > length {
			length, dist = n, d
		}
	}
	return length, dist
}

// described is promise 13.2's definition of the tokens.
func described(b []byte, p api.Plan, wide bool) []api.Token {
	var l []api.Token
	for at := 0; at < len(b); {
		n, dist := 0, 0
		if !p.Store {
			n, dist = found(b, p, wide, at)
		}
		if p.Lazy && n < p.Good {
			if next, _ := found(b, p, wide, at+1); next > n {
				n, dist = 0, 0
			}
		}
		if n == 0 {
			l = append(l, api.Token{Byte: b[at]})
			at++
			continue
		}
		l = append(l, api.Token{Len: n, Dist: dist})
		at += n
	}
	return l
}

// finds asks for the match at an index.
func finds(t *testing.T, f *match.Finder, at, length, dist int) {
	t.Helper()
	if n, d := f.Find(at); n != length || d != dist {
		t.Fatalf("13.1: Find(%d) is %d, %d, want %d, %d", at, n, d, length, dist)
	}
}

// findsAll holds all matches of some bytes against the definition.
func findsAll(t *testing.T, b []byte, p api.Plan, wide bool) {
	t.Helper()
	f := match.New(b, p, wide)
	for at := range len(b) + 1 {
		length, dist := found(b, p, wide, at)
		if n, d := f.Find(at); n != length || d != dist {
			t.Fatalf("13.1: in %.80q with %+v, %t, Find(%d) is %d, %d, want %d, %d", b, p, wide, at, n, d, length, dist)
		}
	}
}

// tokens asks for these tokens.
func tokens(t *testing.T, b []byte, p api.Plan, wide bool, want []api.Token) {
	t.Helper()
	if l := match.Tokens(b, p, wide); !slices.Equal(l, want) {
		t.Fatalf("13.2: in %.80q with %+v, %t, the tokens are %.40v, want %.40v", b, p, wide, l, want)
	}
}

// expands asks for tokens that describe the bytes.
func expands(t *testing.T, b []byte, p api.Plan, wide bool) {
	t.Helper()
	got, at, code := lz.Expand(match.Tokens(b, p, wide), wide)
	if !bytes.Equal(got, b) || at != 0 || code != api.OK {
		t.Fatalf("13.3: the tokens of %d bytes %.40q with %+v, %t, expand to %d bytes, %d, %d", len(b), b, p, wide, len(got), at, code)
	}
}

func TestExamples(t *testing.T) {
	for _, wide := range []bool{false, true} {
		b := []byte("abcabcabcXabcabcY")
		f := match.New(b, plain, wide)
		finds(t, f, 3, 6, 3)
		finds(t, f, 10, 6, 7)
		finds(t, f, 9, 0, 0)
		none := match.New(b, api.Plan{Good: 100}, wide)
		for at := range b {
			finds(t, none, at, 0, 0)
		}
		tokens(t, b[:9], plain, wide, []api.Token{{Byte: 'a'}, {Byte: 'b'}, {Byte: 'c'}, {Len: 6, Dist: 3}})
	}
}

// TestFindInShortBytes is of all bytes of two kinds that are so few, with all
// plans beside the edges.
func TestFindInShortBytes(t *testing.T) {
	chains := []int{math.MinInt, -1, 0, 1, 2, 3, math.MaxInt}
	goods := []int{math.MinInt, -1, 0, 1, 2, 3, 4, 5, 7, math.MaxInt}
	for n := range 10 {
		for kind := range 1 << n {
			b := make([]byte, n)
			for i := range b {
				b[i] = byte(kind >> i & 1)
			}
			for _, chain := range chains {
				for _, good := range goods {
					findsAll(t, b, api.Plan{Chain: chain, Good: good}, kind&1 == 1)
				}
			}
		}
	}
}

func TestFindInMixedBytes(t *testing.T) {
	for seed := range uint64(12) {
		for _, kinds := range []int{1, 2, 3, 5, 26} {
			b := mixed(300, kinds, seed)
			for _, p := range levels {
				findsAll(t, b, p, seed&1 == 1)
			}
		}
		b := woven(1500, seed)
		for _, p := range levels {
			findsAll(t, b, p, seed&1 == 1)
		}
	}
}

// TestAllValuesOfBytes is of beginnings that differ in any one of their three
// bytes, in any one of its bits.
func TestAllValuesOfBytes(t *testing.T) {
	for _, first := range []string{"\x00\x00\x00", "\xFF\xFF\xFF", "\x80\x01\x7F", "abc"} {
		for i := range shortest {
			for bit := range 8 {
				other := []byte(first)
				other[i] ^= 1 << bit
				b := slices.Concat([]byte(first), []byte("12"), other, []byte("34"), []byte(first), []byte("5"))
				f := match.New(b, plain, false)
				finds(t, f, 5, 0, 0)
				finds(t, f, 10, 3, 10)
			}
		}
	}
}

// TestDistances is of the three bytes at which a match begins, standing as far
// back as they may, a bit nearer, and a bit farther.
func TestDistances(t *testing.T) {
	for _, dist := range []int{3, 4, farthest - 1, farthest, farthest + 1, 2*farthest - 1, 2 * farthest, 2*farthest + 1, 3 * farthest} {
		for _, ahead := range []int{0, 1, 1000} {
			b := slices.Concat(make([]byte, ahead), []byte("abc"), make([]byte, dist-3), []byte("abc"), []byte("!"))
			for _, wide := range []bool{false, true} {
				f := match.New(b, plain, wide)
				if _, most := greatest(wide); dist <= most {
					finds(t, f, ahead+dist, 3, dist)
				} else {
					finds(t, f, ahead+dist, 0, 0)
				}
			}
		}
	}
}

// TestFarAndNear is of a candidate that is near and one that is longer, as far
// back as it may be or farther: each step of the chain is short enough.
func TestFarAndNear(t *testing.T) {
	p := api.Plan{Chain: 3, Good: 100}
	for _, wide := range []bool{false, true} {
		_, most := greatest(wide)
		for _, dist := range []int{most - 1, most, most + 1} {
			b := slices.Concat([]byte("abcdef"), make([]byte, dist), []byte("abcdef!"))
			at := 6 + dist
			copy(b[at-dist:], "abcdef?")
			copy(b[at-most/2:], "abcd??")
			f := match.New(b, p, wide)
			if dist <= most {
				finds(t, f, at, 6, dist)
			} else {
				finds(t, f, at, 4, most/2)
			}
		}
	}
}

// TestLengths is of matches that are as long as they may be, a bit shorter, and
// a bit longer: beyond themselves, and far from themselves.
func TestLengths(t *testing.T) {
	for _, n := range []int{3, 4, 31, 32, 33, 63, 64, 65, longest - 1, longest, longest + 1, 1000, longest64 - 1, longest64, longest64 + 1} {
		for _, wide := range []bool{false, true} {
			most, reach := greatest(wide)
			b := slices.Concat([]byte("!"), bytes.Repeat([]byte("x"), n+1), []byte("?"))
			finds(t, match.New(b, plain, wide), 2, min(n, most), 1)
			finds(t, match.New(b[:n+2], plain, wide), 2, min(n, most), 1)
			b = slices.Concat(bytes.Repeat([]byte("xyz"), n/3+2)[:n+3], []byte("?"))
			finds(t, match.New(b, plain, wide), 3, min(n, most), 3)
			if n+1 > reach {
				continue
			}
			b = mixed(n, 256, uint64(n))
			b = slices.Concat([]byte("?"), b, []byte("!"), b, []byte("?"))
			finds(t, match.New(b, plain, wide), n+2, min(n, most), n+1)
		}
	}
}

// TestEveryLength is of matches that end at each place behind their beginning,
// be it with another byte or with the end of all.
func TestEveryLength(t *testing.T) {
	for n := range 400 {
		whole := mixed(400, 256, 1)
		for _, wide := range []bool{false, true} {
			most, _ := greatest(wide)
			want := min(n, most)
			dist := len(whole)
			if n < shortest {
				want, dist = 0, 0
			}
			ends := slices.Concat(whole, whole[:n])
			finds(t, match.New(ends, plain, wide), len(whole), want, dist)
			other := slices.Concat(ends, []byte{whole[n] ^ 1}, whole[n+1:])
			finds(t, match.New(other, plain, wide), len(whole), want, dist)
		}
	}
}

// TestBestOfSeveral is of several candidates: the longest one is it, the
// nearest one of those, unless one is long enough.
func TestBestOfSeveral(t *testing.T) {
	const b = "abcdefgh1" + "abcdefgh2" + "abcd3" + "abcdefg4" + "abc5" + "abcdefg6" + "abcde7" + "abcdefgh!"
	at := len(b) - len("abcdefgh!")
	const five, seven = 6, 14 // how far back 5 and 7 bytes stand nearest
	far := at - 9             // and 8 of them
	for _, x := range []struct{ chain, good, length, dist int }{
		{1, 100, 5, five}, {2, 100, 7, seven}, {3, 100, 7, seven}, {4, 100, 7, seven}, {5, 100, 7, seven},
		{6, 100, 8, far}, {7, 100, 8, far}, {math.MaxInt, 100, 8, far}, {math.MaxInt, math.MaxInt, 8, far},
		{0, 100, 0, 0}, {-1, 100, 0, 0}, {math.MinInt, 1, 0, 0},
		{9, math.MinInt, 5, five}, {9, -1, 5, five}, {9, 0, 5, five}, {9, 1, 5, five}, {9, 3, 5, five}, {9, 5, 5, five},
		{9, 6, 7, seven}, {9, 7, 7, seven}, {9, 8, 8, far}, {9, 9, 8, far}, {5, 8, 7, seven}, {1, 8, 5, five},
	} {
		for _, wide := range []bool{false, true} {
			f := match.New([]byte(b), api.Plan{Chain: x.chain, Good: x.good}, wide)
			if n, d := f.Find(at); n != x.length || d != x.dist {
				t.Errorf("13.1: with Chain %d and Good %d, Find is %d, %d, want %d, %d", x.chain, x.good, n, d, x.length, x.dist)
			}
		}
	}
}

// TestOthersAreNoCandidates is of places at which two of the three bytes stand:
// they don't count for Chain.
func TestOthersAreNoCandidates(t *testing.T) {
	b := []byte("abcd" + strings.Repeat("abx", 40) + strings.Repeat("xbc", 40) + strings.Repeat("axc", 40) + "abcd")
	finds(t, match.New(b, api.Plan{Chain: 1, Good: 9}, false), 364, 4, 364)
}

// TestOtherFieldsOfThePlan is of those that Find doesn't ask for.
func TestOtherFieldsOfThePlan(t *testing.T) {
	for _, b := range [][]byte{[]byte("abcabcabcXabcabcY"), woven(700, 1)} {
		for _, p := range []api.Plan{plain, {Chain: 1}, {Chain: 5, Good: 4}} {
			f := match.New(b, p, false)
			p.Store, p.Lazy = true, true
			other := match.New(b, p, false)
			for at := range b {
				n, d := f.Find(at)
				finds(t, other, at, n, d)
			}
		}
	}
}

func TestNoIndex(t *testing.T) {
	b := []byte("aaaaaa")
	for _, wide := range []bool{false, true} {
		for _, p := range levels {
			for _, f := range []*match.Finder{match.New(b, p, wide), match.New(nil, p, wide), match.New([]byte{}, p, wide), {}, nil} {
				for _, at := range []int{math.MinInt, math.MinInt32, -1 << 32, -3, -2, -1, 0, 4, 5, 6, 7, 1 << 31, 1 << 32, 1<<32 + 1, math.MaxInt - 2, math.MaxInt - 1, math.MaxInt} {
					finds(t, f, at, 0, 0)
				}
			}
		}
	}
	for n := range 5 { // no three bytes stand behind the first one, or just three
		f := match.New(b[:n], plain, false)
		for at := range 5 {
			length, dist := found(b[:n], plain, false, at)
			finds(t, f, at, length, dist)
		}
	}
}

// TestFindInAnyOrder is of what Find doesn't hang on: earlier calls.
func TestFindInAnyOrder(t *testing.T) {
	b := woven(2000, 2)
	for _, p := range []api.Plan{plain, {Chain: 1}, {Chain: math.MaxInt, Good: math.MaxInt}} {
		f := match.New(b, p, true)
		for at := len(b) + 5; at >= -5; at-- {
			length, dist := found(b, p, true, at)
			finds(t, f, at, length, dist)
			finds(t, f, at, length, dist)
		}
		r := rand.New(rand.NewPCG(13, 3))
		for range 2000 {
			at := r.IntN(len(b))
			length, dist := found(b, p, true, at)
			finds(t, f, at, length, dist)
			f.Find(-at)
			f.Find(at + len(b))
		}
	}
}

func TestStore(t *testing.T) {
	for _, b := range [][]byte{nil, {}, {0}, {255, 254}, bytes.Repeat([]byte("a"), 1000), woven(3000, 4)} {
		var want []api.Token
		for _, c := range b {
			want = append(want, api.Token{Byte: c})
		}
		for _, p := range levels {
			for _, wide := range []bool{false, true} {
				p.Store = true
				tokens(t, b, p, wide, want)
				p.Store, p.Chain = false, min(p.Chain, 0)
				tokens(t, b, p, wide, want)
			}
		}
	}
}

// TestTokensOfShortBytes is of all bytes of two kinds that are so few.
func TestTokensOfShortBytes(t *testing.T) {
	for n := range 11 {
		for kind := range 1 << n {
			b := make([]byte, n)
			for i := range b {
				b[i] = byte(kind >> i & 1)
			}
			for _, p := range levels {
				for good := range 6 {
					p.Good = good
					tokens(t, b, p, good&1 == 1, described(b, p, good&1 == 1))
				}
			}
		}
	}
}

func TestTokensOfMixedBytes(t *testing.T) {
	for seed := range uint64(20) {
		wide := seed&1 == 1
		for _, p := range levels {
			for _, kinds := range []int{1, 2, 3, 5, 26} {
				b := mixed(300, kinds, seed)
				tokens(t, b, p, wide, described(b, p, wide))
			}
			b := woven(2000, seed)
			tokens(t, b, p, wide, described(b, p, wide))
		}
	}
}

// TestLazy is of a match behind whose first byte a longer one begins.
func TestLazy(t *testing.T) {
	const ahead = "abcd1" + "bcdefg2" + "cdefghijk3"
	for _, x := range []struct {
		rest string
		lazy bool
		good int
		want []api.Token
	}{
		{"abcdefg!", false, 100, []api.Token{{Len: 4, Dist: 22}, {Len: 3, Dist: 12}, {Byte: '!'}}},
		{"abcdefg!", true, 100, []api.Token{{Byte: 'a'}, {Len: 6, Dist: 18}, {Byte: '!'}}},
		{"abcdefg!", true, 5, []api.Token{{Byte: 'a'}, {Len: 6, Dist: 18}, {Byte: '!'}}},
		// A match that isn't shorter than Good is taken.
		{"abcdefg!", true, 4, []api.Token{{Len: 4, Dist: 22}, {Len: 3, Dist: 12}, {Byte: '!'}}},
		{"abcdefg!", true, 0, []api.Token{{Len: 4, Dist: 22}, {Len: 3, Dist: 12}, {Byte: '!'}}},
		{"abcdefg!", true, math.MinInt, []api.Token{{Len: 4, Dist: 22}, {Len: 3, Dist: 12}, {Byte: '!'}}},
		// The next match must be longer than this one, not as long.
		{"abcde!", true, 100, []api.Token{{Len: 4, Dist: 22}, {Byte: 'e'}, {Byte: '!'}}},
		{"abcd!", true, 100, []api.Token{{Len: 4, Dist: 22}, {Byte: '!'}}},
		// The next one may give way, too, as long as it is shorter than Good.
		{"abcdefghijk!", true, 100, []api.Token{{Byte: 'a'}, {Byte: 'b'}, {Len: 9, Dist: 12}, {Byte: '!'}}},
		{"abcdefghijk!", true, 7, []api.Token{{Byte: 'a'}, {Byte: 'b'}, {Len: 9, Dist: 12}, {Byte: '!'}}},
		{"abcdefghijk!", true, 6, []api.Token{{Byte: 'a'}, {Len: 6, Dist: 18}, {Len: 4, Dist: 12}, {Byte: '!'}}},
		// At the end of all there is no next match.
		{"abc", true, 100, []api.Token{{Len: 3, Dist: 22}}},
	} {
		b := []byte(ahead + x.rest)
		p := api.Plan{Chain: 8, Good: x.good, Lazy: x.lazy}
		for _, wide := range []bool{false, true} {
			l := match.Tokens(b, p, wide)
			behind := behindBytes(l, len(ahead))
			if !slices.Equal(behind, x.want) {
				t.Errorf("13.2: with %+v, behind %s the tokens of %s are %v, want %v", p, ahead, x.rest, behind, x.want)
			}
		}
	}
}

// behindBytes returns the tokens behind those of the first n bytes.
func behindBytes(l []api.Token, n int) []api.Token {
	for i, x := range l {
		if n <= 0 {
			return l[i:]
		}
		n -= max(1, x.Len)
	}
	return nil
}

// TestTokensOfFarMatches is of bytes that come again only as far back as a
// match may reach, or farther.
func TestTokensOfFarMatches(t *testing.T) {
	for _, wide := range []bool{false, true} {
		length, most := greatest(wide)
		for _, dist := range []int{most - 1, most, most + 1} {
			once := make([]byte, dist)
			rand.NewChaCha8([32]byte{1}).Read(once)
			b := bytes.Repeat(once, 4)[:dist+2*length]
			l := match.Tokens(b, api.Plan{Chain: 1, Good: math.MaxInt}, wide)
			want := []api.Token{{Len: length, Dist: dist}, {Len: length, Dist: dist}}
			if dist > most {
				if slices.ContainsFunc(l, func(x api.Token) bool { return x.Dist > most || x.Len > 5 }) {
					t.Errorf("13.2: of bytes that come again only beyond %d, %t, there are matches", most, wide)
				}
			} else if !slices.Equal(l[len(l)-2:], want) {
				t.Errorf("13.2: of bytes that come again %d behind, %t, the last tokens are %v", dist, wide, l[len(l)-2:])
			}
		}
	}
}

// TestExpand is of 13.3.
func TestExpand(t *testing.T) {
	list := [][]byte{
		nil, {}, []byte("a"), []byte("ab"), []byte("aaa"), []byte("aaaa"), []byte("abcabcabc"),
		make([]byte, 100000), bytes.Repeat([]byte("ab"), 40000), bytes.Repeat([]byte("abcdefg"), 12000),
		mixed(70000, 256, 5), mixed(70000, 3, 5), woven(100000, 5),
	}
	once := mixed(farthest64+10, 256, 6)
	list = append(list, slices.Concat(once, once), slices.Concat(once[:farthest], once[:farthest], once[:farthest+1], once[:farthest+2]))
	for _, b := range list {
		for _, p := range levels {
			p.Chain = min(p.Chain, 1024)
			for _, wide := range []bool{false, true} {
				expands(t, b, p, wide)
			}
		}
	}
}

func TestExpandMany(t *testing.T) {
	r := rand.New(rand.NewPCG(13, 7))
	for seed := range uint64(300) {
		p := api.Plan{Chain: r.IntN(20) - 1, Good: r.IntN(300) - 1, Lazy: r.IntN(2) == 0}
		expands(t, woven(r.IntN(3000), seed), p, r.IntN(2) == 0)
		expands(t, mixed(r.IntN(3000), 1+r.IntN(4), seed), p, r.IntN(2) == 0)
	}
}

// TestMatchesAreTheLongest is of few tokens for bytes that are all the same,
// however many places might be looked at.
func TestMatchesAreTheLongest(t *testing.T) {
	b := make([]byte, 1<<20)
	for _, wide := range []bool{false, true} {
		most, _ := greatest(wide)
		want := []api.Token{{}}
		for left := len(b) - 1; left > 0; left -= most {
			want = append(want, api.Token{Len: min(left, most), Dist: 1})
		}
		for _, p := range []api.Plan{
			{Chain: 1}, {Chain: 1024, Good: 258, Lazy: true},
			{Chain: math.MaxInt, Good: math.MaxInt}, {Chain: math.MaxInt, Good: math.MaxInt, Lazy: true},
		} {
			if l := match.Tokens(b, p, wide); !slices.Equal(l, want) {
				t.Errorf("13.2: of %d equal bytes with %+v, %t, there are %d tokens, want %d", len(b), p, wide, len(l), len(want))
			}
		}
	}
}

// TestManyLongCandidates is of bytes whose every candidate is long, and none as
// long as may be.
func TestManyLongCandidates(t *testing.T) {
	const n = 60000
	b := slices.Concat(bytes.Repeat([]byte("x"), n), []byte("!"), bytes.Repeat([]byte("x"), n-1), []byte("?"))
	f := match.New(b, api.Plan{Chain: math.MaxInt, Good: math.MaxInt}, true)
	finds(t, f, n+1, n-1, n)
	f = match.New(b, api.Plan{Chain: math.MaxInt, Good: 5000}, true)
	finds(t, f, n+1, 5000, 5001)
	f = match.New(b, api.Plan{Chain: 100, Good: 5000}, true)
	finds(t, f, n+1, 102, 103)
}

func TestLeavesTheBytesAlone(t *testing.T) {
	room := woven(3000, 8)
	old := slices.Clone(room)
	for _, p := range levels {
		b := room[:2000]
		f := match.New(b, p, false)
		f.Find(1500)
		match.Tokens(b, p, false)
		if !bytes.Equal(room, old) {
			t.Fatalf("rule 2: with %+v, the bytes are changed", p)
		}
	}
}

// TestKeepsNoArgument is of a Finder whose bytes are changed afterwards.
func TestKeepsNoArgument(t *testing.T) {
	b := woven(2000, 9)
	old := slices.Clone(b)
	f := match.New(b, plain, false)
	other := match.New(b, plain, false)
	clear(b)
	for at := range old {
		length, dist := found(old, plain, false, at)
		finds(t, f, at, length, dist)
		finds(t, other, at, length, dist)
	}
}

func TestAnswerIsTheCallers(t *testing.T) {
	b := woven(2000, 10)
	for _, p := range levels {
		first := match.Tokens(b, p, true)
		want := slices.Clone(first)
		second := match.Tokens(b, p, true)
		clear(first)
		_ = append(first[:0], make([]api.Token, cap(first))...)
		if !slices.Equal(second, want) {
			t.Error("rule 2: two answers share memory")
		}
		tokens(t, b, p, true, want)
	}
}

// TestTogether is of rule 3: the same calls have the same answers, whatever
// other calls do, on the same Finder, too.
func TestTogether(t *testing.T) {
	b := woven(3000, 11)
	p := api.Plan{Chain: 16, Good: 32, Lazy: true}
	f := match.New(b, p, true)
	want := described(b, p, true)
	length, dist := found(b, p, true, 2500)
	var group sync.WaitGroup
	for range 8 {
		group.Go(func() {
			if !slices.Equal(match.Tokens(b, p, true), want) {
				t.Error("rule 3: Tokens answers otherwise the next time")
			}
			for range 100 {
				if n, d := f.Find(2500); n != length || d != dist {
					t.Error("rule 3: Find answers otherwise the next time")
				}
			}
		})
	}
	group.Wait()
}
