package window_test

import (
	"bytes"
	"math"
	"math/rand/v2"
	"slices"
	"sync"
	"testing"

	"stevedore/api"
	"stevedore/window"
)

// largest and most are what chapter 10 allows: of a size, and of one copy.
const (
	largest = 65536
	most    = 65538
)

// wrongCounts are numbers of bytes that no copy may have.
var wrongCounts = []int{
	math.MinInt, math.MinInt + 1, -1 << 32, 1 - 1<<32, math.MinInt32, -most, -2, -1,
	most + 1, most + 2, 1 << 17, math.MaxInt32, 1 << 32, 1<<32 + 1, math.MaxInt,
}

// model is promise 10.1's definition of a window: all bytes that were ever
// appended, of which the last size ones are in it.
type model struct {
	size int
	all  []byte
}

func (m *model) put(c byte) { m.all = append(m.all, c) }

func (m *model) have() int { return min(len(m.all), m.size) }

func (m *model) copy(dist, n int) ([]byte, api.Errno) {
	switch {
	case n < 0 || n > most:
		return nil, api.ErrArg
	case dist < 1 || dist > m.have():
		return nil, api.ErrForm
	}
	for range n {
		m.all = append(m.all, m.all[len(m.all)-dist])
	}
	return m.all[len(m.all)-n:], api.OK
}

// open returns an empty window of that size.
func open(t *testing.T, size int) *window.Window {
	t.Helper()
	w, code := window.New(size)
	if w == nil || code != api.OK {
		t.Fatalf("10.1: New(%d) is %v, %d", size, w, code)
	}
	return w
}

// loaded returns a window of that size to which b was appended, and its model.
func loaded(t *testing.T, size int, b []byte) (*window.Window, *model) {
	t.Helper()
	w := open(t, size)
	for _, c := range b {
		w.Put(c)
	}
	return w, &model{size: size, all: slices.Clone(b)}
}

// mixed returns n bytes that follow no short rule, the same ones every time.
func mixed(n int, seed byte) []byte {
	b := make([]byte, n)
	rand.NewChaCha8([32]byte{seed}).Read(b)
	return b
}

// isSame holds the numbers of a window against its model.
func isSame(t *testing.T, w *window.Window, m *model) {
	t.Helper()
	if w.Have() != m.have() || w.Total() != len(m.all) {
		t.Fatalf("10.1: size %d: Have is %d, Total %d, want %d, %d", m.size, w.Have(), w.Total(), m.have(), len(m.all))
	}
}

// copies lets both copy, and holds the answers against each other.
func copies(t *testing.T, w *window.Window, m *model, dist, n int) {
	t.Helper()
	before := len(m.all)
	got, code := w.Copy(dist, n)
	want, fault := m.copy(dist, n)
	if !bytes.Equal(got, want) || code != fault {
		t.Fatalf("10.1: size %d, Total %d: Copy(%d, %d) is %d bytes, %d, want %d bytes, %d", m.size, before, dist, n, len(got), code, len(want), fault)
	}
	isSame(t, w, m)
}

// hasAll holds all bytes in the window against the model's, by copying them.
func hasAll(t *testing.T, w *window.Window, m *model) {
	t.Helper()
	isSame(t, w, m)
	copies(t, w, m, m.have(), m.have())
}

func TestExamples(t *testing.T) {
	w := open(t, 4)
	w.Put('a')
	w.Put('b')
	if w.Have() != 2 || w.Total() != 2 {
		t.Errorf("10.1: behind two Puts, Have is %d, Total %d", w.Have(), w.Total())
	}
	if b, code := w.Copy(2, 5); string(b) != "ababa" || code != api.OK {
		t.Errorf("10.2: Copy(2, 5) is %q, %d", b, code)
	}
	if b, code := w.Copy(1, -1); b != nil || code != api.ErrArg {
		t.Errorf("10.1: Copy(1, -1) is %q, %d", b, code)
	}
	if b, code := w.Copy(0, 1); b != nil || code != api.ErrForm {
		t.Errorf("10.1: Copy(0, 1) is %q, %d", b, code)
	}
	if w.Have() != 4 || w.Total() != 7 {
		t.Errorf("10.1: behind Copy(2, 5), Have is %d, Total %d", w.Have(), w.Total())
	}
}

func TestFifthPut(t *testing.T) {
	w, m := loaded(t, 4, []byte("abcd"))
	isSame(t, w, m)
	w.Put('e')
	if w.Have() != 4 || w.Total() != 5 {
		t.Errorf("10.1: behind five Puts, Have is %d, Total %d", w.Have(), w.Total())
	}
	if b, code := w.Copy(5, 1); b != nil || code != api.ErrForm {
		t.Errorf("10.1: the oldest byte isn't removed: Copy(5, 1) is %q, %d", b, code)
	}
	if b, code := w.Copy(4, 4); string(b) != "bcde" || code != api.OK {
		t.Errorf("10.1: behind five Puts, Copy(4, 4) is %q, %d", b, code)
	}
}

func TestNew(t *testing.T) {
	for _, size := range []int{
		math.MinInt, -1 << 32, 1 - 1<<32, math.MinInt32, -largest, -4, -1, 0,
		largest + 1, largest + 2, 1 << 17, math.MaxInt32, 1 << 32, 1<<32 + 1, math.MaxInt,
	} {
		if w, code := window.New(size); w != nil || code != api.ErrRange {
			t.Errorf("10.1: New(%d) is %v, %d", size, w, code)
		}
	}
	for _, size := range []int{1, 2, 3, 4, 255, 256, 257, 32767, 32768, 32769, largest - 1, largest} {
		w := open(t, size)
		if w.Have() != 0 || w.Total() != 0 {
			t.Errorf("10.1: New(%d) has %d bytes of %d", size, w.Have(), w.Total())
		}
		if b, code := w.Copy(1, 1); b != nil || code != api.ErrForm {
			t.Errorf("10.1: Copy(1, 1) of an empty window of %d is %q, %d", size, b, code)
		}
	}
}

func TestPut(t *testing.T) {
	for _, size := range []int{1, 2, 3, 7, 8, 9, 64, 255, 256, 257} {
		for puts := range 2*size + 3 {
			w, m := loaded(t, size, mixed(puts, 1))
			isSame(t, w, m)
			if puts > 0 {
				hasAll(t, w, m)
			}
		}
	}
}

// TestPutEveryByte is of all values of a byte: none of them counts as no byte.
func TestPutEveryByte(t *testing.T) {
	for size := 1; size <= 3; size++ {
		w, m := loaded(t, size, nil)
		for c := range 256 {
			w.Put(byte(c))
			m.put(byte(c))
			copies(t, w, m, 1, 1)
		}
	}
}

func TestPutAtTheLargestSizes(t *testing.T) {
	for _, size := range []int{32768, largest - 1, largest} {
		for _, puts := range []int{size - 1, size, size + 1, 2*size - 1, 2 * size, 2*size + 1, 200000} {
			w, m := loaded(t, size, mixed(puts, 2))
			copies(t, w, m, size+1, 1)
			copies(t, w, m, m.have()+1, 1)
			hasAll(t, w, m)
			hasAll(t, w, m)
		}
	}
}

// TestCopy is of all copies behind few bytes in small windows.
func TestCopy(t *testing.T) {
	for size := 1; size <= 9; size++ {
		for puts := range 2*size + 2 {
			for dist := -2; dist <= size+3; dist++ {
				for n := range 3*size + 3 {
					w, m := loaded(t, size, []byte("abcdefghijklmnopqrst")[:puts])
					copies(t, w, m, dist, n)
					if m.have() > 0 {
						hasAll(t, w, m)
					}
				}
			}
		}
	}
}

// TestMixed is of windows in which bytes and copies come by turns.
func TestMixed(t *testing.T) {
	r := rand.New(rand.NewPCG(10, 1))
	for _, size := range []int{1, 2, 3, 5, 8, 100, 256, 1000, 32768, largest} {
		w, m := loaded(t, size, nil)
		for range 300 {
			for range r.IntN(8) {
				c := byte(r.IntN(256))
				w.Put(c)
				m.put(c)
				isSame(t, w, m)
			}
			copies(t, w, m, r.IntN(m.have()+2), r.IntN(1<<r.IntN(12)))
		}
		copies(t, w, m, m.have(), most)
		hasAll(t, w, m)
	}
}

// TestLongCopies is of copies that are longer than the window, up to the
// longest that there may be.
func TestLongCopies(t *testing.T) {
	for _, size := range []int{1, 2, 3, 300, 32768, largest - 1, largest} {
		for _, n := range []int{0, 1, 258, size - 1, size, min(size+1, most), largest, most - 1, most} {
			for _, dist := range []int{1, 2, size/2 + 1, size - 1, size, size + 1} {
				w, m := loaded(t, size, mixed(size+5, 3))
				copies(t, w, m, dist, n)
				hasAll(t, w, m)
			}
		}
	}
}

func TestErrorsOfCopy(t *testing.T) {
	for _, size := range []int{1, 4, largest} {
		for _, puts := range []int{0, 1, 3, 5} {
			w, m := loaded(t, size, []byte("vwxyz")[:puts])
			wrongDists := []int{
				math.MinInt, math.MinInt + 1, -1 << 32, 1 - 1<<32, math.MinInt32, -4, -1, 0,
				m.have() + 1, m.have() + 2, size + 1, most, math.MaxInt32, 1 << 32, 1<<32 + 1, math.MaxInt,
			}
			for _, n := range wrongCounts {
				for _, dist := range append(wrongDists, 1, m.have()) {
					if b, code := w.Copy(dist, n); b != nil || code != api.ErrArg {
						t.Errorf("10.1: size %d, %d bytes: Copy(%d, %d) is %d bytes, %d", size, puts, dist, n, len(b), code)
					}
				}
			}
			for _, n := range []int{0, 1, 2, 258, most - 1, most} {
				for _, dist := range wrongDists {
					if b, code := w.Copy(dist, n); b != nil || code != api.ErrForm {
						t.Errorf("10.1: size %d, %d bytes: Copy(%d, %d) is %d bytes, %d", size, puts, dist, n, len(b), code)
					}
				}
			}
			isSame(t, w, m) // nothing has changed
			if puts > 0 {
				hasAll(t, w, m)
			}
		}
	}
}

func TestCopyOfNothing(t *testing.T) {
	w, m := loaded(t, 4, []byte("abcdefg"))
	for dist := 1; dist <= 4; dist++ {
		if b, code := w.Copy(dist, 0); len(b) != 0 || code != api.OK {
			t.Errorf("10.1: Copy(%d, 0) is %q, %d", dist, b, code)
		}
		isSame(t, w, m)
	}
	hasAll(t, w, m)
}

// TestRepeats is of 10.2: a copy that is longer than its distance says the last
// dist bytes again and again.
func TestRepeats(t *testing.T) {
	for _, size := range []int{1, 2, 3, 10, 258, 32768, largest} {
		b := mixed(size+3, 4)
		for _, dist := range []int{1, 2, 3, 9, 10, 257, 258, 32767, 32768, largest} {
			if dist > size {
				break
			}
			for _, n := range []int{dist + 1, 2 * dist, 2*dist + 1, 3*dist + dist/2, 258, most} {
				if n <= dist || n > most {
					continue
				}
				w, _ := loaded(t, size, b)
				got, code := w.Copy(dist, n)
				want := bytes.Repeat(b[len(b)-dist:], n/dist+1)[:n]
				if !bytes.Equal(got, want) || code != api.OK {
					t.Errorf("10.2: size %d: Copy(%d, %d) is %d bytes, %d, and doesn't repeat", size, dist, n, len(got), code)
				}
				if w.Have() != size || w.Total() != len(b)+n {
					t.Errorf("10.2: size %d: behind Copy(%d, %d), Have is %d, Total %d", size, dist, n, w.Have(), w.Total())
				}
			}
		}
	}
}

// TestRepeatsBehindFewBytes is of 10.2 in windows that aren't full.
func TestRepeatsBehindFewBytes(t *testing.T) {
	for size := 1; size <= 20; size++ {
		for puts := 1; puts <= size; puts++ {
			for dist := 1; dist <= puts; dist++ {
				b := []byte("abcdefghijklmnopqrst")[:puts]
				w, _ := loaded(t, size, b)
				want := bytes.Repeat(b[puts-dist:], 100)[:100]
				if got, code := w.Copy(dist, 100); !bytes.Equal(got, want) || code != api.OK {
					t.Fatalf("10.2: size %d, %d bytes: Copy(%d, 100) is %q, %d", size, puts, dist, got, code)
				}
			}
		}
	}
}

func TestCopiedIsTheCallers(t *testing.T) {
	for _, size := range []int{4, 7, 100} {
		w, m := loaded(t, size, []byte("abcdefg"))
		for dist := 1; dist <= 4; dist++ {
			for n := range 12 {
				first, _ := w.Copy(dist, n)
				m.copy(dist, n)
				second, _ := w.Copy(dist, n)
				m.copy(dist, n)
				old := slices.Clone(second)
				for i := range first {
					first[i] ^= 0xFF
				}
				_ = append(first[:0], make([]byte, cap(first))...)
				if !bytes.Equal(second, old) {
					t.Fatalf("10.1: two answers of Copy(%d, %d) share memory", dist, n)
				}
				clear(second)
				_ = append(second[:0], make([]byte, cap(second))...)
				hasAll(t, w, m)
			}
		}
		kept, _ := w.Copy(3, 9)
		old := slices.Clone(kept)
		for c := range 3 * size {
			w.Put(byte(c))
		}
		if !bytes.Equal(kept, old) {
			t.Errorf("10.1: size %d: what Copy answered is changed by Put", size)
		}
	}
}

func TestWindowsShareNothing(t *testing.T) {
	a, m := loaded(t, 5, []byte("abcdefgh"))
	b, o := loaded(t, 5, []byte("stuv"))
	hasAll(t, a, m)
	hasAll(t, b, o)
	a.Put('x')
	m.put('x')
	hasAll(t, b, o)
	hasAll(t, a, m)
}

// TestKeepsNoMore is of a full window: the oldest byte is given up for each one
// that comes, so no more memory is needed.
func TestKeepsNoMore(t *testing.T) {
	for _, size := range []int{1, 300, largest} {
		w, m := loaded(t, size, mixed(1<<20, 5))
		puts := 0
		more := func() {
			for range 1 << 20 {
				w.Put('x')
			}
			puts += 1 << 20
		}
		if n := testing.AllocsPerRun(1, more); n != 0 {
			t.Errorf("10.1: Put to a full window of %d takes more memory, %v times", size, n)
		}
		m.all = append(m.all, bytes.Repeat([]byte("x"), puts)...)
		hasAll(t, w, m)
	}
}

func TestNilAndZero(t *testing.T) {
	var none *window.Window
	none.Put('a')
	if none.Have() != 0 || none.Total() != 0 {
		t.Errorf("rule 1: a nil window has %d bytes of %d", none.Have(), none.Total())
	}
	var zero window.Window
	for range 5 {
		zero.Put('a')
	}
	if zero.Have() != 0 || zero.Total() != 5 {
		t.Errorf("rule 1: behind five Puts a zero window has %d bytes of %d", zero.Have(), zero.Total())
	}
	for _, w := range []*window.Window{none, &zero} {
		for _, dist := range []int{math.MinInt, -1, 0, 1, 2, math.MaxInt} {
			for _, n := range wrongCounts {
				if b, code := w.Copy(dist, n); b != nil || code != api.ErrArg {
					t.Errorf("rule 1: Copy(%d, %d) without a size is %q, %d", dist, n, b, code)
				}
			}
			for _, n := range []int{0, 1, most} {
				if b, code := w.Copy(dist, n); b != nil || code != api.ErrForm {
					t.Errorf("rule 1: Copy(%d, %d) without a size is %q, %d", dist, n, b, code)
				}
			}
		}
	}
}

// TestTogether is of rule 3: the same calls have the same answers, whatever
// other windows do.
func TestTogether(t *testing.T) {
	b := mixed(5000, 6)
	w, m := loaded(t, 1000, b)
	want, _ := w.Copy(700, 3000)
	var group sync.WaitGroup
	for range 8 {
		group.Go(func() {
			w, _ := window.New(1000)
			for _, c := range b {
				w.Put(c)
			}
			if got, code := w.Copy(700, 3000); !bytes.Equal(got, want) || code != api.OK {
				t.Error("10.1: Copy answers otherwise the next time")
			}
		})
	}
	group.Wait()
	m.copy(700, 3000)
	hasAll(t, w, m)
}
