package canon_test

import (
	"math"
	"math/rand/v2"
	"slices"
	"testing"

	"stevedore/api"
	"stevedore/canon"
)

// wrong are no lengths of code words.
var wrong = []int{math.MinInt, -1 << 32, 1 - 1<<32, -16, -15, -1, 16, 17, 31, 64, 1 << 32, 1<<32 + 1, math.MaxInt}

// some are lengths of all kinds of codes.
func some() [][]int {
	all := [][]int{nil, {}, {0}, {0, 0, 0}, {1, 2, 3, 4, 5, 6, 7, 8, 9, 10, 11, 12, 13, 14, 15, 15}}
	for a := range 16 {
		all = append(all, []int{a})
		for b := range 16 {
			all = append(all, []int{a, b})
			for c := range 16 {
				all = append(all, []int{a, b, c})
			}
		}
	}
	return append(all, mixed()...)
}

// mixed are long lists of lengths that come in no order.
func mixed() [][]int {
	r := rand.New(rand.NewPCG(7, 1))
	var all [][]int
	for range 400 {
		lens := make([]int, 1+r.IntN(300))
		for i := range lens {
			lens[i] = max(0, 15-r.IntN(20))
		}
		all = append(all, lens)
	}
	for range 400 {
		lens := split(r, 1+r.IntN(300))
		all = append(all, lens, without(r, lens))
	}
	return all
}

// split returns the lengths of a code that uses up all bit strings, with some
// symbols without a code word.
func split(r *rand.Rand, n int) []int {
	lens := []int{1, 1}
	for len(lens) < n {
		if i := r.IntN(len(lens)); lens[i] < 15 {
			lens[i]++
			lens = append(lens, lens[i])
		}
	}
	for range r.IntN(20) {
		lens = append(lens, 0)
	}
	r.Shuffle(len(lens), func(i, j int) { lens[i], lens[j] = lens[j], lens[i] })
	return lens
}

// without returns lens with some symbols less.
func without(r *rand.Rand, lens []int) []int {
	less := slices.Clone(lens)
	for range 1 + r.IntN(9) {
		less[r.IntN(len(less))] = 0
	}
	return less
}

// many are n lengths, all the same.
func many(n, length int) []int { return slices.Repeat([]int{length}, n) }

func isWrong(lens []int) bool {
	return len(lens) > 65536 || slices.ContainsFunc(lens, func(n int) bool { return n < 0 || n > 15 })
}

func kraft(lens []int) int {
	if isWrong(lens) {
		return -1
	}
	sum := 0
	for _, n := range lens {
		if n != 0 {
			sum += int(math.Pow(2, float64(15-n)))
		}
	}
	return sum
}

func kind(lens []int) int {
	var used []int
	for _, n := range lens {
		if n != 0 {
			used = append(used, n)
		}
	}
	switch sum := kraft(lens); {
	case sum == -1 || sum > 32768:
		return canon.Over
	case len(used) == 0:
		return canon.None
	case sum == 32768:
		return canon.Whole
	case slices.Equal(used, []int{1}):
		return canon.Single
	}
	return canon.Open
}

// words goes through the symbols by length and place: a code word is the one
// before and 1, with zeros up to its own length.
func words(lens []int) []uint32 {
	out := make([]uint32, len(lens))
	next, last := uint32(0), 1
	for length := 1; length <= 15; length++ {
		for i, n := range lens {
			if n == length {
				next <<= length - last
				out[i], last = next, length
				next++
			}
		}
	}
	return out
}

func TestKraft(t *testing.T) {
	for _, lens := range some() {
		if v := canon.Kraft(lens); v != kraft(lens) {
			t.Fatalf("7.1: Kraft of %v is %d, not %d", lens, v, kraft(lens))
		}
	}
	for _, c := range []struct {
		n, length, want int
	}{
		{65536, 0, 0}, {65536, 15, 65536}, {65536, 1, 1 << 30}, {32768, 15, 32768}, {32767, 15, 32767},
		{65537, 0, -1}, {65537, 15, -1}, {65537, 1, -1}, {1 << 17, 15, -1}, {1<<17 + 2, 1, -1},
	} {
		if v := canon.Kraft(many(c.n, c.length)); v != c.want {
			t.Errorf("7.1: Kraft of %d lengths %d is %d, not %d", c.n, c.length, v, c.want)
		}
	}
}

func TestKind(t *testing.T) {
	for _, lens := range some() {
		if v := canon.Kind(lens); v != kind(lens) {
			t.Fatalf("7.1: Kind of %v is %d, not %d", lens, v, kind(lens))
		}
	}
	for _, c := range []struct {
		lens []int
		want int
	}{
		{nil, canon.None}, {[]int{0}, canon.None}, {many(65536, 0), canon.None}, {many(65537, 0), canon.Over},
		{[]int{1, 1}, canon.Whole}, {many(32768, 15), canon.Whole}, {[]int{0, 2, 1, 0, 2}, canon.Whole},
		{[]int{1}, canon.Single}, {[]int{0, 1}, canon.Single}, {append(many(65535, 0), 1), canon.Single},
		{[]int{2}, canon.Open}, {[]int{15}, canon.Open}, {[]int{2, 2}, canon.Open}, {[]int{1, 15}, canon.Open},
		{[]int{15, 1}, canon.Open}, {many(32767, 15), canon.Open}, {many(16384, 15), canon.Open},
		{[]int{1, 1, 15}, canon.Over}, {many(32769, 15), canon.Over}, {many(65536, 15), canon.Over}, {[]int{1, 1, 1}, canon.Over},
	} {
		if v := canon.Kind(c.lens); v != c.want {
			t.Errorf("7.1: Kind of %d lengths is %d, not %d", len(c.lens), v, c.want)
		}
	}
}

func TestWrongLengths(t *testing.T) {
	for _, n := range wrong {
		for _, lens := range [][]int{{n}, {n, 1, 1}, {0, n}, {1, 1, n}, {1, 1, 1, n}, append(many(65535, 0), n)} {
			if canon.Kraft(lens) != -1 || canon.Kind(lens) != canon.Over {
				t.Errorf("7.1: %d among %d lengths: %d, %d", n, len(lens), canon.Kraft(lens), canon.Kind(lens))
			}
			if w, code := canon.Codes(lens); w != nil || code != api.ErrRange {
				t.Errorf("7.2: %d among %d lengths: %v, %d", n, len(lens), w, code)
			}
		}
	}
	for _, length := range []int{0, 1, 15} {
		if w, code := canon.Codes(many(65537, length)); w != nil || code != api.ErrRange {
			t.Errorf("7.2: too many lengths %d: %d", length, code)
		}
	}
}

func TestNumbersOfKinds(t *testing.T) {
	if canon.None != 0 || canon.Whole != 1 || canon.Single != 2 || canon.Open != 3 || canon.Over != 4 {
		t.Error("7.1: None, Whole, Single, Open and Over are 0 to 4")
	}
}

func TestCodes(t *testing.T) {
	for _, lens := range append(some(), many(32768, 15), many(65536, 0), append(many(65535, 0), 15)) {
		w, code := canon.Codes(lens)
		if kind(lens) == canon.Over {
			if w != nil || code != api.ErrForm {
				t.Fatalf("7.2: Codes of %v: %v, %d", lens, w, code)
			}
		} else if code != api.OK || !slices.Equal(w, words(lens)) {
			t.Fatalf("7.2: Codes of %v: %v, %d, not %v", lens, w, code, words(lens))
		}
	}
}

func TestCodesOfExamples(t *testing.T) {
	for _, c := range []struct {
		lens []int
		want []uint32
	}{
		{[]int{2, 1, 3, 3}, []uint32{0b10, 0b0, 0b110, 0b111}},
		{[]int{3, 3, 3, 3, 3, 2, 4, 4}, []uint32{2, 3, 4, 5, 6, 0, 14, 15}}, // the one of RFC 1951
		{[]int{1}, []uint32{0}},
		{[]int{0, 15, 0, 15}, []uint32{0, 0, 0, 1}},
		{[]int{15, 1, 0, 2}, []uint32{0x6000, 0, 0, 2}},
	} {
		if w, code := canon.Codes(c.lens); code != api.OK || !slices.Equal(w, c.want) {
			t.Errorf("7.2: Codes of %v: %v, %d", c.lens, w, code)
		}
	}
	for _, lens := range [][]int{{1, 1, 1}, {1, 1, 15}, {1, 2, 2, 15}, many(32769, 15), many(65536, 1)} {
		if w, code := canon.Codes(lens); w != nil || code != api.ErrForm {
			t.Errorf("7.2: Codes of %d lengths: %v, %d", len(lens), w, code)
		}
	}
}

func TestNoPrefix(t *testing.T) {
	for _, lens := range append(mixed(), []int{2, 1, 3, 3}, []int{15, 1, 2}) {
		w, code := canon.Codes(lens)
		if code != api.OK {
			continue
		}
		for i, a := range lens {
			for j, b := range lens {
				if i != j && a > 0 && b >= a && w[j]>>(b-a) == w[i] {
					t.Fatalf("7.3: %0*b begins with %0*b", b, w[j], a, w[i])
				}
				if a > 0 && b > a && w[j]>>(b-a) < w[i] {
					t.Fatalf("7.3: %0*b stands ahead of %0*b", b, w[j], a, w[i])
				}
			}
		}
	}
}

func TestNothingKept(t *testing.T) {
	lens := []int{2, 1, 3, 3}
	w, _ := canon.Codes(lens)
	canon.Kind(lens)
	canon.Kraft(lens)
	if !slices.Equal(lens, []int{2, 1, 3, 3}) {
		t.Fatal("7.2: the lengths changed")
	}
	lens[0], lens[1] = 9, 9
	if !slices.Equal(w, []uint32{2, 0, 6, 7}) {
		t.Error("7.2: the words hang on the lengths that were given")
	}
	clear(w)
	if v, _ := canon.Codes([]int{2, 1, 3, 3}); !slices.Equal(v, []uint32{2, 0, 6, 7}) {
		t.Error("7.2: the words hang on those of a call before")
	}
}
