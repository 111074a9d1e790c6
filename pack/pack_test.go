package pack_test

import (
	"cmp"
	"container/heap"
	"math"
	"math/rand/v2"
	"slices"
	"sync"
	"testing"

	"stevedore/api"
	"stevedore/canon"
	"stevedore/pack"
)

// many are n counts, all the same.
func many(n, count int) []int { return slices.Repeat([]int{count}, n) }

// short are all lists of up to four counts from 0 to 5.
func short() [][]int {
	all := [][]int{nil}
	for from := 0; from < len(all); from++ {
		if len(all[from]) < 4 {
			for count := range 6 {
				all = append(all, append(slices.Clone(all[from]), count))
			}
		}
	}
	return all
}

// long are lists of many counts: flat ones, steep ones, and mixed ones.
func long() [][]int {
	r := rand.New(rand.NewPCG(9, 1))
	all := [][]int{many(400, 1), many(400, 1<<30), many(256, 7), many(257, 7), steps(2, 31), steps(1.618, 44), thirds()}
	for range 60 {
		counts := make([]int, 2+r.IntN(399))
		bits := 1 + r.IntN(30)
		for i := range counts {
			counts[i] = r.IntN(1<<r.IntN(bits+1) + 1)
		}
		all = append(all, counts)
	}
	return all
}

// steps are n counts that grow by a factor: no code of at most 15 bits gives
// every symbol as many as it would like.
func steps(factor float64, n int) []int {
	counts := make([]int, n)
	for i := range counts {
		counts[i] = min(1<<30, int(math.Pow(factor, float64(i))))
	}
	return counts
}

// thirds are 400 counts of which a third doesn't occur and a third is rare.
func thirds() []int {
	counts := make([]int, 400)
	for i := range counts {
		counts[i] = []int{0, 1 + i, 1<<30 - i}[i%3]
	}
	return counts
}

func used(counts []int) int {
	n := 0
	for _, count := range counts {
		if count != 0 {
			n++
		}
	}
	return n
}

// none is what least answers where there is no code.
const none = math.MaxInt

// least returns the smallest cost of a complete code for these counts, of two
// or more symbols. The more often a symbol occurs, the earlier it gets a code
// word: at each length either one of the open strings of bits becomes a code
// word, or all of them are lengthened by a bit.
func least(counts []int, most int) int {
	var left []int // the sums of the counts of those without a code word yet
	for _, count := range slices.Sorted(slices.Values(counts)) {
		if count != 0 {
			left = append(left, count)
		}
	}
	for i := 1; i < len(left); i++ {
		left[i] += left[i-1]
	}
	n := len(left)
	longer := make([][]int, n+1) // by those left, by open strings: with more bits
	for bits := most; bits > 0; bits-- {
		best := make([][]int, n+1)
		for symbols := range best {
			best[symbols] = slices.Repeat([]int{none}, symbols+1)
			if symbols == 0 {
				best[0][0] = 0
				continue
			}
			for open := 1; open <= symbols; open++ {
				best[symbols][open] = best[symbols-1][open-1]
				if bits < most && 2*open <= symbols && longer[symbols][2*open] != none {
					best[symbols][open] = min(best[symbols][open], longer[symbols][2*open]+left[symbols-1])
				}
			}
		}
		longer = best
	}
	if longer[n][2] == none {
		return none
	}
	return longer[n][2] + left[n-1]
}

// tried returns the smallest cost of all lengths of a complete code, one by
// one, where exactly those that occur have a length.
func tried(counts []int, most int) int {
	best := none
	lens := make([]int, len(counts))
	var try func(i int)
	try = func(i int) {
		if i == len(counts) {
			if canon.Kind(lens) == canon.Whole {
				best = min(best, cost(counts, lens))
			}
			return
		}
		if counts[i] == 0 {
			lens[i] = 0
			try(i + 1)
			return
		}
		for lens[i] = 1; lens[i] <= most; lens[i]++ {
			try(i + 1)
		}
	}
	try(0)
	return best
}

func cost(counts, lens []int) int {
	sum := 0
	for i, count := range counts {
		sum += count * lens[i]
	}
	return sum
}

// ints are numbers of which the smallest is taken first.
type ints []int

func (h ints) Len() int           { return len(h) }
func (h ints) Less(i, j int) bool { return h[i] < h[j] }
func (h ints) Swap(i, j int)      { h[i], h[j] = h[j], h[i] }
func (h *ints) Push(x any)        { *h = append(*h, x.(int)) }
func (h *ints) Pop() any {
	x := (*h)[len(*h)-1]
	*h = (*h)[:len(*h)-1]
	return x
}

// huffman returns the smallest cost were there no greatest length.
func huffman(counts []int) int {
	var h ints
	for _, count := range counts {
		if count != 0 {
			heap.Push(&h, count)
		}
	}
	sum := 0
	for len(h) > 1 {
		both := heap.Pop(&h).(int) + heap.Pop(&h).(int)
		sum += both
		heap.Push(&h, both)
	}
	return sum
}

// lengths returns the lengths for counts that are allowed, and holds them
// against all that doesn't hang on the choice among several that are optimal.
func lengths(t *testing.T, counts []int, most int) []int {
	t.Helper()
	given := slices.Clone(counts)
	lens, code := pack.Lengths(counts, most)
	if code != api.OK || len(lens) != len(counts) {
		t.Fatalf("9.1: Lengths(%v, %d): %v, %d", counts, most, lens, code)
	}
	if !slices.Equal(counts, given) {
		t.Fatalf("9.1: Lengths(%v, %d) changed the counts to %v", given, most, counts)
	}
	for i, n := range lens {
		if n < 0 || n > most || (n == 0) != (counts[i] == 0) {
			t.Fatalf("9.1: Lengths(%v, %d): count %d has length %d", counts, most, counts[i], n)
		}
	}
	wanted := canon.Whole
	switch used(counts) {
	case 0:
		wanted = canon.None
	case 1:
		wanted = canon.Single
	}
	if kind := canon.Kind(lens); kind != wanted {
		t.Fatalf("9.1: Lengths(%v, %d) are %v: their Kind is %d, not %d", counts, most, lens, kind, wanted)
	}
	isOrdered(t, counts, lens)
	return lens
}

// isOrdered is of 9.3: what occurs more often has no longer code word.
func isOrdered(t *testing.T, counts, lens []int) {
	t.Helper()
	var order []int
	for i, count := range counts {
		if count != 0 {
			order = append(order, i)
		}
	}
	slices.SortFunc(order, func(a, b int) int {
		return cmp.Or(cmp.Compare(counts[a], counts[b]), cmp.Compare(lens[b], lens[a]))
	})
	for k := 1; k < len(order); k++ {
		a, b := order[k-1], order[k]
		if lens[b] > lens[a] {
			t.Fatalf("9.3: count %d has length %d, count %d has length %d", counts[a], lens[a], counts[b], lens[b])
		}
	}
}

func TestLengthsOfShortLists(t *testing.T) {
	for _, counts := range short() {
		for most := 1; most <= 5; most++ {
			if used(counts) > 1<<most {
				continue
			}
			lens := lengths(t, counts, most)
			if used(counts) < 2 {
				continue
			}
			if got, want := cost(counts, lens), tried(counts, most); got != want {
				t.Fatalf("9.1: Lengths(%v, %d) are %v, which cost %d, not %d", counts, most, lens, got, want)
			}
		}
	}
}

func TestLengthsOfLongLists(t *testing.T) {
	for _, counts := range long() {
		for most := 1; most <= 15; most++ {
			if used(counts) < 2 || used(counts) > 1<<most {
				continue
			}
			lens := lengths(t, counts, most)
			if got, want := cost(counts, lens), least(counts, most); got != want {
				t.Fatalf("9.1, 9.3: Lengths of %d counts with most %d cost %d, not %d", len(counts), most, got, want)
			}
		}
	}
}

func TestAsHuffman(t *testing.T) {
	r := rand.New(rand.NewPCG(9, 2))
	for range 200 {
		counts := make([]int, 2+r.IntN(399))
		for i := range counts {
			counts[i] = 100 + r.IntN(300) // no code word has more than 12 bits
		}
		if got, want := cost(counts, lengths(t, counts, 15)), huffman(counts); got != want {
			t.Fatalf("9.3: Lengths(%v, 15) cost %d, not %d", counts, got, want)
		}
	}
	for _, counts := range [][]int{steps(2, 16), steps(2, 15), steps(2, 2)} {
		if got, want := cost(counts, lengths(t, counts, 15)), huffman(counts); got != want {
			t.Errorf("9.3: Lengths(%v, 15) cost %d, not %d", counts, got, want)
		}
	}
}

// TestModels holds the models against each other: they are ways of their own.
func TestModels(t *testing.T) {
	for _, counts := range short() {
		for most := 1; most <= 4; most++ {
			if used(counts) < 2 {
				continue
			}
			if a, b := least(counts, most), tried(counts, most); a != b {
				t.Fatalf("the smallest cost of %v with most %d is %d, or %d", counts, most, a, b)
			}
		}
	}
}

func TestLengthsOfExamples(t *testing.T) {
	for _, c := range []struct {
		counts []int
		most   int
		want   []int
	}{
		{[]int{1, 1, 2, 4}, 15, []int{3, 3, 2, 1}},
		{[]int{1, 1, 2, 4}, 3, []int{3, 3, 2, 1}},
		{[]int{1, 1, 2, 4}, 2, []int{2, 2, 2, 2}},
		{[]int{4, 0, 2, 1, 0, 1, 0}, 15, []int{1, 0, 2, 3, 0, 3, 0}},
		{[]int{5, 9}, 1, []int{1, 1}},
		{[]int{0, 5, 0, 0, 9}, 15, []int{0, 1, 0, 0, 1}},
		{[]int{1, 1, 3}, 2, []int{2, 2, 1}},
		{[]int{1 << 30, 1, 1}, 2, []int{1, 2, 2}},
		{[]int{1, 2, 4, 8, 16}, 3, []int{3, 3, 3, 3, 1}},
		{[]int{16, 8, 4, 2, 1}, 4, []int{1, 2, 3, 4, 4}},
		{[]int{1 << 30, 1 << 30, 1 << 30, 1 << 30}, 2, []int{2, 2, 2, 2}},
		{many(8, 1<<30), 15, many(8, 3)},
		{steps(3, 16), 15, []int{15, 15, 14, 13, 12, 11, 10, 9, 8, 7, 6, 5, 4, 3, 2, 1}},
	} {
		if lens, code := pack.Lengths(c.counts, c.most); code != api.OK || !slices.Equal(lens, c.want) {
			t.Errorf("9.1: Lengths(%v, %d): %v, %d, not %v", c.counts, c.most, lens, code, c.want)
		}
	}
}

func TestFewSymbols(t *testing.T) {
	for most := 1; most <= 15; most++ {
		for _, counts := range [][]int{nil, {}, {0}, many(400, 0)} {
			if lens, code := pack.Lengths(counts, most); code != api.OK || !slices.Equal(lens, many(len(counts), 0)) {
				t.Errorf("9.1: Lengths of %d counts of 0 with most %d: %v, %d", len(counts), most, lens, code)
			}
		}
		for _, size := range []int{1, 2, 19, 400} {
			for _, count := range []int{1, 2, 1 << 30} {
				for _, at := range []int{0, size / 2, size - 1} {
					counts, want := many(size, 0), many(size, 0)
					counts[at], want[at] = count, 1
					if lens, code := pack.Lengths(counts, most); code != api.OK || !slices.Equal(lens, want) {
						t.Errorf("9.1: only count %d of %d is %d: %v, %d", at, size, count, lens, code)
					}
				}
			}
		}
	}
}

// TestNumbersOfSymbols is of as many symbols as there may be, all code words
// of which have the greatest length.
func TestNumbersOfSymbols(t *testing.T) {
	for most := 1; most <= 15; most++ {
		for n := 2; n <= min(400, 1<<most); n++ {
			lens := lengths(t, steps(1.05, n), most)
			if n == 1<<most && !slices.Equal(lens, many(n, most)) {
				t.Errorf("9.1: 2^%d counts: %v", most, lens)
			}
		}
		for n := 1<<most + 1; n <= 400; n++ {
			for _, counts := range [][]int{many(n, 1), append(many(400-n, 0), many(n, 9)...)} {
				if lens, code := pack.Lengths(counts, most); lens != nil || code != api.ErrArg {
					t.Fatalf("9.1: %d counts above 0 with most %d: %v, %d", n, most, lens, code)
				}
			}
		}
	}
}

func TestErrorsOfLengths(t *testing.T) {
	good := []int{3, 1, 2}
	for _, most := range []int{math.MinInt, -1 << 32, -15, -1, 0, 16, 17, 31, 32, 63, 64, 65, 1 << 32, 1<<32 + 2, math.MaxInt} {
		for _, counts := range [][]int{nil, {0}, {1}, good, many(400, 0), many(400, 1)} {
			if lens, code := pack.Lengths(counts, most); lens != nil || code != api.ErrArg {
				t.Errorf("9.1: %d counts with most %d: %v, %d", len(counts), most, lens, code)
			}
		}
	}
	for _, size := range []int{401, 402, 800, 1 << 16} {
		for _, counts := range [][]int{many(size, 0), many(size, 1), append(many(size-1, 0), 1)} {
			if lens, code := pack.Lengths(counts, 15); lens != nil || code != api.ErrArg {
				t.Errorf("9.1: %d counts: %v, %d", size, lens, code)
			}
		}
	}
	for _, count := range []int{math.MinInt, -1 << 32, 1 - 1<<32, -1 << 30, -1, 1<<30 + 1, 1 << 31, 1 << 32, 1<<32 + 1, 1 << 62, math.MaxInt} {
		for _, counts := range [][]int{{count}, {count, 1, 1}, {0, count}, {1, 2, count}, append(many(399, 0), count)} {
			if lens, code := pack.Lengths(counts, 15); lens != nil || code != api.ErrArg {
				t.Errorf("9.1: %d among %d counts: %v, %d", count, len(counts), lens, code)
			}
		}
	}
}

func TestEdgesOfLengths(t *testing.T) {
	for _, c := range []struct {
		counts []int
		most   int
	}{
		{many(400, 1), 9}, {many(400, 1), 15}, {many(400, 1<<30), 9}, {many(400, 0), 1},
		{[]int{1 << 30, 1 << 30}, 1}, {[]int{0, 1 << 30}, 1}, {append(many(398, 0), 1, 1), 1},
	} {
		lengths(t, c.counts, c.most)
	}
}

func TestCost(t *testing.T) {
	for _, c := range []struct {
		counts, lens []int
		want         int
	}{
		{[]int{1, 2, 3}, []int{4, 5}, 14},
		{[]int{1, 2}, []int{4, 5, 6}, 14},
		{[]int{1, 2, 3}, []int{4, 5, 6}, 32},
		{nil, nil, 0}, {nil, []int{1}, 0}, {[]int{1}, nil, 0}, {[]int{}, []int{}, 0},
		{[]int{0, 7}, []int{9, 0}, 0},
		{[]int{1 << 30, 1 << 30}, []int{15, 15}, 30 << 30},
		{many(400, 1<<30), many(400, 15), 6000 << 30},
		{many(70000, 2), many(70001, 3), 420000},
		{[]int{-3, 5}, []int{2, -1}, -11},
		{[]int{1 << 40}, []int{20}, 20 << 40},
		{[]int{math.MinInt, math.MaxInt}, []int{1, 1}, -1},
		{[]int{1, 1, 2, 4}, []int{3, 3, 2, 1}, 14},
	} {
		counts, lens := slices.Clone(c.counts), slices.Clone(c.lens)
		if v := pack.Cost(counts, lens); v != c.want {
			t.Errorf("9.2: Cost of %d counts and %d lengths is %d, not %d", len(c.counts), len(c.lens), v, c.want)
		}
		if !slices.Equal(counts, c.counts) || !slices.Equal(lens, c.lens) {
			t.Error("9.2: Cost changed what it was given")
		}
	}
}

func TestCostOfManyLists(t *testing.T) {
	r := rand.New(rand.NewPCG(9, 3))
	for range 500 {
		counts, lens := make([]int, r.IntN(50)), make([]int, r.IntN(50))
		for i := range counts {
			counts[i] = r.IntN(1 << 30)
		}
		for i := range lens {
			lens[i] = r.IntN(16)
		}
		want := 0
		for i := 0; i < len(counts) && i < len(lens); i++ {
			want += counts[i] * lens[i]
		}
		if v := pack.Cost(counts, lens); v != want {
			t.Fatalf("9.2: Cost(%v, %v) is %d, not %d", counts, lens, v, want)
		}
	}
}

// TestNoneIsCheaper is of 9.3: some steps from the lengths to those of another
// complete code never save a bit.
func TestNoneIsCheaper(t *testing.T) {
	r := rand.New(rand.NewPCG(9, 4))
	for _, counts := range long() {
		lens := lengths(t, counts, 15)
		least := pack.Cost(counts, lens)
		for range 300 {
			other := stepped(r, lens)
			if v := pack.Cost(counts, other); v < least {
				t.Fatalf("9.3: the lengths %v cost %d for %v, these %v cost %d", lens, least, counts, other, v)
			}
		}
	}
}

// stepped returns lens after up to three steps: the lengths of two symbols are
// swapped, or one is shortened and two are lengthened.
func stepped(r *rand.Rand, lens []int) []int {
	other := slices.Clone(lens)
	for range 1 + r.IntN(3) {
		i, j, k := r.IntN(len(lens)), r.IntN(len(lens)), r.IntN(len(lens))
		if other[i] == 0 || other[j] == 0 || other[k] == 0 {
			continue
		}
		before := slices.Clone(other)
		other[i]--
		other[j]++
		other[k]++
		if canon.Kind(other) != canon.Whole || slices.Contains([]int{other[i], other[j], other[k]}, 0) {
			other = before
			other[i], other[j] = other[j], other[i]
		}
	}
	return other
}

func TestNothingKept(t *testing.T) {
	counts := []int{1, 1, 2, 4}
	a, _ := pack.Lengths(counts, 15)
	b, _ := pack.Lengths(counts, 15)
	clear(b)
	clear(counts)
	if !slices.Equal(a, []int{3, 3, 2, 1}) {
		t.Errorf("9.1: the lengths hang on what was given, or on another answer: %v", a)
	}
}

// TestTogether is of rule 3: the same counts have the same lengths, whoever
// else asks.
func TestTogether(t *testing.T) {
	counts := thirds()
	want, _ := pack.Lengths(counts, 10)
	var group sync.WaitGroup
	for range 8 {
		group.Go(func() {
			for most := 9; most <= 15; most++ {
				pack.Lengths(counts, most)
			}
			if lens, code := pack.Lengths(counts, 10); code != api.OK || !slices.Equal(lens, want) {
				t.Error("9.1: Lengths answers otherwise the next time")
			}
		})
	}
	group.Wait()
}
