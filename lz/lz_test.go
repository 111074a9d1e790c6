package lz_test

import (
	"bytes"
	"math"
	"math/rand/v2"
	"slices"
	"sync"
	"testing"

	"stevedore/api"
	"stevedore/lz"
)

// What chapter 11 allows: the lengths and the distances of matches, the bytes
// of all, and what Size returns at most.
const (
	shortest   = 3
	longest    = 258
	longest64  = 65538
	farthest   = 32768
	farthest64 = 65536
	maxBytes   = 1 << 30
	maxSize    = 1 << 40
)

// extremes are numbers that no token may have, as Len or as Dist.
var extremes = []int{
	math.MinInt, math.MinInt + 1, -1 << 32, 1 - 1<<32, math.MinInt32, -longest64, -longest, -3, -1,
	longest64 + 1, 1 << 17, math.MaxInt32, 1<<32 + 3, 1<<40 + 3, math.MaxInt - 1, math.MaxInt,
}

// literals returns a token for each byte.
func literals(b string) []api.Token {
	var l []api.Token
	for i := range len(b) {
		l = append(l, api.Token{Byte: b[i]})
	}
	return l
}

// match returns a token that is a match.
func match(n, dist int) api.Token { return api.Token{Len: n, Dist: dist} }

// mixed returns n bytes that follow no short rule, the same ones every time.
func mixed(n int, seed byte) string {
	b := make([]byte, n)
	rand.NewChaCha8([32]byte{seed}).Read(b)
	return string(b)
}

// greatest returns what a match may have at most.
func greatest(wide bool) (length, dist int) {
	if wide {
		return longest64, farthest64
	}
	return longest, farthest
}

// described is promise 11.1's definition of what tokens describe: a byte, or
// bytes that each stand Dist positions behind an equal one.
func described(l []api.Token) []byte {
	var b []byte
	for _, t := range l {
		if t.Len == 0 {
			b = append(b, t.Byte)
		}
		for range t.Len {
			b = append(b, b[len(b)-t.Dist])
		}
	}
	return b
}

// random returns n tokens that are valid one after another. The lengths and the
// distances of matches hold to a bound that is drawn anew each time, so that
// short ones are as frequent as long ones.
func random(r *rand.Rand, n int, wide bool) []api.Token {
	length, dist := greatest(wide)
	var l []api.Token
	total := 0
	for range n {
		if total == 0 || r.IntN(2) == 0 {
			l = append(l, api.Token{Byte: byte(r.IntN(256))})
			total++
			continue
		}
		t := match(
			shortest+r.IntN(min(1<<r.IntN(17), length-shortest+1)),
			1+r.IntN(min(1<<r.IntN(17), dist, total)))
		l = append(l, t)
		total += t.Len
	}
	return l
}

// filled returns tokens that describe n bytes x, with matches as long as may be.
func filled(n int, wide bool) []api.Token {
	length, _ := greatest(wide)
	l := literals("x")
	for n--; n >= length+shortest; n -= length {
		l = append(l, match(length, 1))
	}
	for n > length { // what is left for the last one must be long enough
		l = append(l, match(n-shortest, 1))
		n = shortest
	}
	if n >= shortest {
		return append(l, match(n, 1))
	}
	return append(l, literals("xx"[:n])...)
}

// expands asks for the bytes of tokens that have no error.
func expands(t *testing.T, l []api.Token, wide bool, want []byte) {
	t.Helper()
	b, at, code := lz.Expand(l, wide)
	if !bytes.Equal(b, want) || at != 0 || code != api.OK {
		t.Fatalf("11.1: Expand of %d tokens, %t, is %d bytes, %d, %d, want %d bytes, 0, OK", len(l), wide, len(b), at, code, len(want))
	}
	if n := lz.Size(l); n != len(want) {
		t.Fatalf("11.1: Size of %d tokens is %d, want %d", len(l), n, len(want))
	}
}

// fails asks for the error of tokens, and for its place.
func fails(t *testing.T, l []api.Token, wide bool, at int, code api.Errno) {
	t.Helper()
	b, place, fault := lz.Expand(l, wide)
	if b != nil || place != at || fault != code {
		t.Fatalf("11.1: Expand of %d tokens, %t, is %d bytes, %d, %d, want %d, %d", len(l), wide, len(b), place, fault, at, code)
	}
}

func TestExamples(t *testing.T) {
	if lz.May(match(259, 1), false) {
		t.Error("11.1: {259, 1} is valid without wide")
	}
	if !lz.May(match(65538, 1), true) {
		t.Error("11.1: {65538, 1} isn't valid if wide")
	}
	if n := lz.Size([]api.Token{{Len: -5}, {Dist: 9}, {Len: 7}}); n != 8 {
		t.Errorf("11.1: Size of {-5}, {0, 9} and {7} is %d", n)
	}
	for _, wide := range []bool{false, true} {
		expands(t, append(literals("ab"), match(5, 2)), wide, []byte("abababa"))
		fails(t, append(literals("ab"), match(3, 3)), wide, 2, api.ErrForm)
	}
}

func TestMayOfLiterals(t *testing.T) {
	for _, wide := range []bool{false, true} {
		for c := range 256 {
			if !lz.May(api.Token{Byte: byte(c)}, wide) {
				t.Errorf("11.1: the literal %d isn't valid, %t", c, wide)
			}
			for _, dist := range append(extremes, 1, 2, farthest, farthest64) {
				if lz.May(api.Token{Dist: dist, Byte: byte(c)}, wide) {
					t.Errorf("11.1: {0, %d, %d} is valid, %t", dist, c, wide)
				}
			}
		}
	}
}

// TestMayOfMatches is of all lengths and distances beside the edges, each with
// each.
func TestMayOfMatches(t *testing.T) {
	numbers := slices.Clone(extremes)
	for _, edge := range []int{0, shortest, longest, farthest, farthest64, longest64} {
		for n := edge - 3; n <= edge+3; n++ {
			numbers = append(numbers, n)
		}
	}
	for _, wide := range []bool{false, true} {
		length, dist := greatest(wide)
		for _, n := range numbers {
			for _, d := range numbers {
				if n == 0 {
					continue // a literal, or none
				}
				want := n >= shortest && n <= length && d >= 1 && d <= dist
				if lz.May(match(n, d), wide) != want {
					t.Errorf("11.1: May of {%d, %d}, %t, is %t", n, d, wide, !want)
				}
				for _, c := range []byte{1, 'a', 128, 255} {
					if lz.May(api.Token{Len: n, Dist: d, Byte: c}, wide) {
						t.Errorf("11.1: {%d, %d, %d} is valid, %t", n, d, c, wide)
					}
				}
			}
		}
	}
}

func TestMayOfEveryLengthAndDistance(t *testing.T) {
	for _, wide := range []bool{false, true} {
		length, dist := greatest(wide)
		for n := range 70000 {
			if want := n >= shortest && n <= length; n > 0 && lz.May(match(n, 1), wide) != want {
				t.Fatalf("11.1: May of {%d, 1}, %t, is %t", n, wide, !want)
			}
			if want := n >= 1 && n <= dist; lz.May(match(3, n), wide) != want {
				t.Fatalf("11.1: May of {3, %d}, %t, is %t", n, wide, !want)
			}
		}
	}
}

func TestSize(t *testing.T) {
	for _, x := range []struct {
		l    []api.Token
		want int
	}{
		{nil, 0},
		{[]api.Token{}, 0},
		{literals("a"), 1},
		{literals("\x00\xFF"), 2},
		{[]api.Token{{Dist: math.MinInt}, {Dist: -1, Byte: 7}, {Dist: math.MaxInt}}, 3},
		{[]api.Token{{Len: 1}, {Len: 2, Dist: -9}, {Len: 3, Byte: 5}}, 6},
		{[]api.Token{{Len: -1}}, 0},
		{[]api.Token{{Len: math.MinInt}, {Len: math.MinInt}}, 0},
		{[]api.Token{{Len: 4}, {Len: math.MinInt}, {Len: -4}}, 4},
		{[]api.Token{{Len: maxBytes}, {Len: maxBytes}}, 2 * maxBytes},
		{[]api.Token{{Len: math.MaxInt32}, {Len: 1}}, 1 << 31},
		{[]api.Token{{Len: math.MaxUint32}, {Len: 1}}, 1 << 32},
		{[]api.Token{{Len: maxSize - 1}}, maxSize - 1},
		{[]api.Token{{Len: maxSize - 1}, {}}, maxSize},
		{[]api.Token{{}, {Len: maxSize - 1}}, maxSize},
		{[]api.Token{{Len: maxSize}}, maxSize},
		{[]api.Token{{Len: maxSize + 1}}, maxSize},
		{[]api.Token{{Len: maxSize}, {}}, maxSize},
		{[]api.Token{{Len: maxSize}, {Len: -1}, {Len: math.MinInt}}, maxSize},
		{[]api.Token{{Len: maxSize / 2}, {Len: maxSize / 2}, {Len: maxSize / 2}}, maxSize},
		{[]api.Token{{Len: math.MaxInt}}, maxSize},
		{[]api.Token{{Len: math.MaxInt}, {Len: math.MaxInt}}, maxSize},
		{[]api.Token{{Len: math.MaxInt}, {Len: math.MaxInt}, {Len: 2}}, maxSize},
		{[]api.Token{{Len: 9}, {Len: math.MaxInt}, {Len: math.MinInt}, {Len: math.MaxInt}}, maxSize},
	} {
		if n := lz.Size(x.l); n != x.want {
			t.Errorf("11.1: Size of %v is %d, want %d", x.l, n, x.want)
		}
	}
	if n := lz.Size(slices.Repeat([]api.Token{{Len: math.MaxInt - 1}}, 5000)); n != maxSize {
		t.Errorf("11.1: Size of many long tokens is %d", n)
	}
	if n := lz.Size(slices.Repeat([]api.Token{{Dist: 1}}, 5000)); n != 5000 {
		t.Errorf("11.1: Size of 5000 tokens with Len 0 is %d", n)
	}
}

func TestExpandNothing(t *testing.T) {
	for _, wide := range []bool{false, true} {
		expands(t, nil, wide, nil)
		expands(t, []api.Token{}, wide, nil)
	}
}

func TestExpandLiterals(t *testing.T) {
	for _, wide := range []bool{false, true} {
		for c := range 256 {
			b := []byte{byte(c)}
			expands(t, literals(string(b)), wide, b)
			expands(t, append(literals(string(b)), match(4, 1)), wide, bytes.Repeat(b, 5))
		}
		b := mixed(100000, 1)
		expands(t, literals(b), wide, []byte(b))
	}
}

// TestExpandMatches is of all matches behind few bytes.
func TestExpandMatches(t *testing.T) {
	const b = "abcdefghij"
	for have := range len(b) + 1 {
		for dist := 1; dist <= have+2; dist++ {
			for n := shortest; n <= 40; n++ {
				l := append(literals(b[:have]), match(n, dist), api.Token{Byte: 'z'}, match(3, 2))
				for _, wide := range []bool{false, true} {
					if dist > have {
						fails(t, l, wide, have, api.ErrForm)
					} else {
						expands(t, l, wide, described(l))
					}
				}
			}
		}
	}
}

// TestExpandLongAndFar is of the longest matches and of those that reach
// farthest, behind just as many bytes as they need, and behind many more.
func TestExpandLongAndFar(t *testing.T) {
	for _, wide := range []bool{false, true} {
		length, dist := greatest(wide)
		for _, d := range []int{1, 2, longest, dist/2 + 1, dist - 1, dist} {
			for _, n := range []int{shortest, longest - 1, longest, length - 1, length} {
				for _, have := range []int{d, d + 1, dist, 2*dist + 3} {
					if have < d {
						continue
					}
					l := append(literals(mixed(have, 2)), match(n, d), match(n, min(have, dist)))
					expands(t, l, wide, described(l))
				}
				fails(t, append(literals(mixed(d-1, 2)), match(n, d)), wide, d-1, api.ErrForm)
			}
		}
	}
}

func TestExpandRandom(t *testing.T) {
	r := rand.New(rand.NewPCG(11, 1))
	for range 400 {
		for _, wide := range []bool{false, true} {
			l := random(r, r.IntN(60), wide)
			expands(t, l, wide, described(l))
		}
	}
}

// TestInvalidTokens is of each kind of token that isn't valid, at each place of
// a list that is valid otherwise.
func TestInvalidTokens(t *testing.T) {
	wrong := []api.Token{
		{Dist: 1}, {Dist: -1}, {Dist: 1, Byte: 'a'}, {Dist: math.MaxInt}, {Dist: math.MinInt},
		{Len: 3}, {Len: 3, Byte: 'a'}, {Len: 3, Dist: -1}, {Len: 3, Dist: 1, Byte: 1}, {Len: 3, Dist: 1, Byte: 255},
		{Len: 1, Dist: 1}, {Len: 2, Dist: 1}, {Len: -1}, {Len: -3, Dist: 1}, {Len: -3, Dist: -1},
		{Len: longest64 + 1, Dist: 1}, {Len: 3, Dist: farthest64 + 1}, {Len: longest64, Dist: 1, Byte: 1},
		{Len: math.MaxInt, Dist: 1}, {Len: math.MinInt, Dist: 1}, {Len: math.MaxInt, Dist: math.MaxInt},
		{Len: 3, Dist: math.MaxInt}, {Len: 3, Dist: math.MinInt}, {Len: maxBytes, Dist: 1}, {Len: 1<<32 + 3, Dist: 1},
		{Len: 3, Dist: 1<<32 + 1},
	}
	good := append(literals("abcd"), match(9, 3), api.Token{Byte: 'e'}, match(258, 12))
	for _, wide := range []bool{false, true} {
		for _, x := range wrong {
			for at := range len(good) + 1 {
				l := slices.Insert(slices.Clone(good), at, x)
				fails(t, l, wide, at, api.ErrForm)
				fails(t, append(l, wrong...), wide, at, api.ErrForm)
			}
		}
	}
}

// TestWideTokens is of tokens that are valid only if wide.
func TestWideTokens(t *testing.T) {
	b := literals(mixed(farthest64, 3))
	for _, x := range []api.Token{
		match(longest+1, 1), match(longest64, 1), match(3, farthest+1), match(3, farthest64),
		match(longest64, farthest64), match(longest, farthest+1), match(longest+1, farthest),
	} {
		l := append(slices.Clone(b), x)
		fails(t, l, false, len(b), api.ErrForm)
		expands(t, l, true, described(l))
	}
	l := append(slices.Clone(b), match(longest, farthest))
	expands(t, l, false, described(l))
	expands(t, l, true, described(l))
}

// TestFirstOfSeveral is of distances beyond the bytes that stand before them:
// bytes behind them don't count, and only the first error does.
func TestFirstOfSeveral(t *testing.T) {
	for _, wide := range []bool{false, true} {
		fails(t, []api.Token{match(3, 1)}, wide, 0, api.ErrForm)
		fails(t, append([]api.Token{match(3, 1)}, literals("abc")...), wide, 0, api.ErrForm)
		fails(t, append(literals("a"), match(3, 2), match(3, 9), api.Token{Len: -1}), wide, 1, api.ErrForm)
		fails(t, append(literals("abc"), match(3, 3), match(5, 7), match(3, 1)), wide, 4, api.ErrForm)
		expands(t, append(literals("abc"), match(3, 3), match(5, 6)), wide, []byte("abcabcabcab"))
		fails(t, append(literals("abc"), match(4, 3), match(3, 8)), wide, 4, api.ErrForm)
	}
}

// TestLimit is of lists that describe as many bytes as there may be, and of
// what makes them more.
func TestLimit(t *testing.T) {
	for _, wide := range []bool{false, true} {
		l := filled(maxBytes, wide)
		if n := lz.Size(l); n != maxBytes {
			t.Fatalf("the test's own list describes %d bytes", n)
		}
		n := len(l)
		_, dist := greatest(wide)
		fails(t, append(l, api.Token{Byte: 'y'}), wide, n, api.ErrLimit)
		fails(t, append(l, match(3, 1)), wide, n, api.ErrLimit)
		fails(t, append(l, match(longest, dist)), wide, n, api.ErrLimit)
		// The errors of one token come in the order that the chapter names.
		fails(t, append(l, api.Token{Dist: 1}), wide, n, api.ErrForm)
		fails(t, append(l, match(2, 1)), wide, n, api.ErrForm)
		fails(t, append(l, match(3, dist+1)), wide, n, api.ErrForm)
		fails(t, append(l, match(math.MaxInt, 1)), wide, n, api.ErrForm)
		// Of two tokens the first one counts.
		fails(t, append(l, match(3, 1), match(2, 1)), wide, n, api.ErrLimit)
		fails(t, append(l, match(2, 1), match(3, 1)), wide, n, api.ErrForm)
		fails(t, append(l, match(3, 1), match(3, 1)), wide, n, api.ErrLimit)
		// One byte less than there may be has room for a byte, for no match.
		less := filled(maxBytes-1, wide)
		n = len(less)
		fails(t, append(less, match(3, 1)), wide, n, api.ErrLimit)
		fails(t, append(less, api.Token{Byte: 'y'}, api.Token{Byte: 'y'}), wide, n+1, api.ErrLimit)
	}
}

// TestAsManyAsMayBe is of the largest answer that there is.
func TestAsManyAsMayBe(t *testing.T) {
	l := append(filled(maxBytes-4, true), api.Token{Byte: 'y'}, match(3, 2))
	b, at, code := lz.Expand(l, true)
	if len(b) != maxBytes || at != 0 || code != api.OK {
		t.Fatalf("11.1: Expand of %d bytes is %d bytes, %d, %d", maxBytes, len(b), at, code)
	}
	if bytes.Count(b, []byte("x")) != maxBytes-2 || string(b[maxBytes-5:]) != "xyxyx" {
		t.Error("11.1: Expand of as many bytes as there may be has other ones")
	}
}

// TestConcatenation is of 11.2.
func TestConcatenation(t *testing.T) {
	r := rand.New(rand.NewPCG(11, 2))
	for range 300 {
		for _, wide := range []bool{false, true} {
			a, b := random(r, r.IntN(30), wide), random(r, r.IntN(30), wide)
			first, _, _ := lz.Expand(a, wide)
			second, at, code := lz.Expand(b, wide)
			if at != 0 || code != api.OK {
				t.Fatalf("11.2: valid tokens give %d, %d", at, code)
			}
			both, at, code := lz.Expand(slices.Concat(a, b), wide)
			if !bytes.Equal(both, slices.Concat(first, second)) || at != 0 || code != api.OK {
				t.Fatalf("11.2: two lists together are %d bytes, %d, %d, one by one %d and %d", len(both), at, code, len(first), len(second))
			}
		}
	}
}

// TestConcatenationOfManyBytes is of 11.2 where the first list alone is longer
// than any match reaches.
func TestConcatenationOfManyBytes(t *testing.T) {
	r := rand.New(rand.NewPCG(11, 3))
	for _, wide := range []bool{false, true} {
		for _, have := range []int{farthest - 1, farthest, farthest + 1, farthest64 - 1, farthest64, 200000} {
			first := mixed(have, 4)
			b := random(r, 50, wide)
			second, _, code := lz.Expand(b, wide)
			if code != api.OK {
				t.Fatalf("11.2: valid tokens give %d", code)
			}
			both, at, code := lz.Expand(append(literals(first), b...), wide)
			if string(both) != first+string(second) || at != 0 || code != api.OK {
				t.Fatalf("11.2: behind %d bytes, %d tokens are %d bytes, %d, %d", have, len(b), len(both), at, code)
			}
		}
	}
}

// TestOnlyBehindAnother is of a list that isn't valid by itself: what stands
// ahead of it makes it so.
func TestOnlyBehindAnother(t *testing.T) {
	a, b := literals("abc"), []api.Token{match(4, 3), {Byte: 'z'}}
	fails(t, b, false, 0, api.ErrForm)
	expands(t, slices.Concat(a, b), false, []byte("abcabcaz"))
}

func TestLeavesTheTokensAlone(t *testing.T) {
	for _, bad := range []bool{false, true} {
		l := append(literals("abc"), match(7, 3), match(258, 10))
		if bad {
			l = append(l, match(3, 1000))
		}
		room := append(l, literals("room")...)
		old := slices.Clone(room)
		lz.Expand(l, false)
		lz.Size(l)
		if !slices.Equal(room, old) {
			t.Errorf("rule 2: the tokens are changed")
		}
	}
}

func TestAnswerIsTheCallers(t *testing.T) {
	l := append(literals("abc"), match(300, 3))
	first, _, _ := lz.Expand(l, true)
	second, _, _ := lz.Expand(l, true)
	want := slices.Clone(second)
	clear(first)
	_ = append(first[:0], make([]byte, cap(first))...)
	if !bytes.Equal(second, want) {
		t.Error("rule 2: two answers share memory")
	}
	expands(t, l, true, want)
}

// TestTogether is of rule 3: the same calls have the same answers, whatever
// other calls do.
func TestTogether(t *testing.T) {
	l := random(rand.New(rand.NewPCG(11, 4)), 200, true)
	bad := append(slices.Clone(l), match(2, 2))
	want := described(l)
	var group sync.WaitGroup
	for range 8 {
		group.Go(func() {
			if b, at, code := lz.Expand(l, true); !bytes.Equal(b, want) || at != 0 || code != api.OK {
				t.Error("rule 3: Expand answers otherwise the next time")
			}
			if b, at, code := lz.Expand(bad, true); b != nil || at != len(l) || code != api.ErrForm {
				t.Error("rule 3: Expand fails otherwise the next time")
			}
		})
	}
	group.Wait()
}
