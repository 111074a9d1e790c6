package bits_test

import (
	"bytes"
	"math"
	"math/rand/v2"
	"slices"
	"testing"

	"stevedore/api"
	"stevedore/bits"
)

// outside are numbers of bits beyond what Put, Code and Get take.
var outside = []int{
	math.MinInt, -1 << 32, 1 - 1<<32, -64, -33, -32, -8, -1,
	33, 34, 63, 64, 65, 128, 256, 257, 1 << 31, 1<<32 + 1, math.MaxInt,
}

// numbers are numbers whose bits differ at both ends.
var numbers = []uint32{0, 1, 2, 5, 6, 0x80, 0xFF, 0x100, 0x12345678, 0x7FFFFFFF, 0x80000000, 0x80000001, 0xFFFFFFFE, 0xFFFFFFFF}

// bitList is promise 5.1's definition of a Writer: a bit an element.
type bitList []byte

func (l *bitList) put(v uint32, n int) {
	for i := 0; n <= 32 && i < n; i++ {
		*l = append(*l, byte(v>>i&1))
	}
}

func (l *bitList) code(v uint32, n int) {
	for i := n - 1; n <= 32 && i >= 0; i-- {
		*l = append(*l, byte(v>>i&1))
	}
}

func (l *bitList) align() {
	for len(*l)%8 != 0 {
		*l = append(*l, 0)
	}
}

func (l *bitList) raw(b []byte) {
	l.align()
	for _, v := range b {
		l.put(uint32(v), 8)
	}
}

func (l *bitList) bytes() []byte {
	b := make([]byte, (len(*l)+7)/8)
	for i, bit := range *l {
		b[i/8] |= bit << (i % 8)
	}
	return b
}

// get is promise 5.2's definition of what n bits from bit at on are.
func get(b []byte, at, n int) (v uint32) {
	for i := range n {
		v |= uint32(b[(at+i)/8]>>((at+i)%8)&1) << i
	}
	return v
}

// mixed returns n bytes that follow no short rule, the same ones every time.
func mixed(n int, seed byte) []byte {
	b := make([]byte, n)
	rand.NewChaCha8([32]byte{seed}).Read(b)
	return b
}

// holds tells whether a Writer has the bits of l and no others.
func holds(w *bits.Writer, l bitList) bool {
	return w.Len() == len(l) && bytes.Equal(w.Bytes(), l.bytes())
}

// begun returns a Writer that has n bits already, and these bits.
func begun(n int) (*bits.Writer, bitList) {
	w, l := bits.NewWriter(), bitList{}
	for i := range n {
		w.Put(uint32(i%3), 1)
		l.put(uint32(i%3), 1)
	}
	return w, l
}

func TestWriterExamples(t *testing.T) {
	w := bits.NewWriter()
	if w.Len() != 0 || len(w.Bytes()) != 0 {
		t.Error("5.1: a new Writer isn't empty")
	}
	w.Put(5, 3)
	w.Code(6, 3)
	if w.Len() != 6 || !bytes.Equal(w.Bytes(), []byte{0x1D}) {
		t.Errorf("5.1: Put(5, 3) and Code(6, 3): %d bits, %X", w.Len(), w.Bytes())
	}
	w.Code(1, -1)
	if w.Len() != 6 {
		t.Error("5.1: Code(1, -1) appends something")
	}
	w.Raw([]byte{9})
	if w.Len() != 16 || !bytes.Equal(w.Bytes(), []byte{0x1D, 9}) {
		t.Errorf("5.1: Raw of 09 behind six bits: %d bits, %X", w.Len(), w.Bytes())
	}
	w, _ = begun(49)
	w.Align()
	if w.Len() != 56 {
		t.Errorf("5.1: Align behind 49 bits makes Len %d", w.Len())
	}
}

func TestPutAndCode(t *testing.T) {
	for ahead := range 17 {
		for n := 1; n <= 32; n++ {
			for _, v := range numbers {
				w, l := begun(ahead)
				w.Put(v, n)
				l.put(v, n)
				if !holds(w, l) {
					t.Fatalf("5.1: Put(%X, %d) behind %d bits: %d bits, %X", v, n, ahead, w.Len(), w.Bytes())
				}
				w.Code(v, n)
				l.code(v, n)
				if !holds(w, l) {
					t.Fatalf("5.1: Code(%X, %d) behind %d bits and a Put: %d bits, %X", v, n, ahead, w.Len(), w.Bytes())
				}
			}
		}
	}
}

func TestPutAndCodeOutside(t *testing.T) {
	for ahead := range 9 {
		w, l := begun(ahead)
		for _, n := range append([]int{0}, outside...) {
			for _, v := range numbers {
				w.Put(v, n)
				w.Code(v, n)
				if !holds(w, l) {
					t.Fatalf("5.1: Put or Code(%X, %d) behind %d bits does something", v, n, ahead)
				}
			}
		}
		w.Put(1, 1)
		l.put(1, 1)
		if !holds(w, l) {
			t.Errorf("5.1: what followed wrong numbers of bits behind %d bits: %X", ahead, w.Bytes())
		}
	}
}

func TestWriterAlign(t *testing.T) {
	for n := range 70 {
		w, l := begun(n)
		for range 2 { // the second Align is at a byte boundary
			w.Align()
			l.align()
			if !holds(w, l) {
				t.Errorf("5.1: Align behind %d bits: %d bits, %X", n, w.Len(), w.Bytes())
			}
		}
		w.Put(0x1FF, 9)
		l.put(0x1FF, 9)
		if !holds(w, l) {
			t.Errorf("5.1: a Put behind an Align behind %d bits: %d bits, %X", n, w.Len(), w.Bytes())
		}
	}
}

func TestRaw(t *testing.T) {
	for n := range 20 {
		for _, b := range [][]byte{nil, {}, {0}, {9}, {255, 0, 255}, mixed(1000, 1)} {
			w, l := begun(n)
			old := slices.Clone(b)
			w.Raw(b)
			l.raw(b)
			if !holds(w, l) {
				t.Errorf("5.1: Raw of %d bytes behind %d bits: %d bits", len(b), n, w.Len())
			}
			if !bytes.Equal(b, old) {
				t.Errorf("5.1: Raw changed its bytes")
			}
			clear(b)
			w.Put(3, 2)
			l.put(3, 2)
			if !holds(w, l) {
				t.Errorf("5.1: Raw behind %d bits kept the bytes that it was given", n)
			}
		}
	}
}

func TestWriterAnyOrder(t *testing.T) {
	random := rand.New(rand.NewPCG(1, 2))
	for range 3000 {
		w, l := bits.NewWriter(), bitList{}
		for range random.IntN(40) {
			v, n := random.Uint32(), random.IntN(36)-1
			switch random.IntN(6) {
			case 0:
				w.Align()
				l.align()
			case 1:
				b := mixed(random.IntN(5), byte(n))
				w.Raw(b)
				l.raw(b)
			case 2, 3:
				w.Code(v, n)
				l.code(v, n)
			default:
				w.Put(v, n)
				l.put(v, n)
			}
			if !holds(w, l) {
				t.Fatalf("5.1: %d bits, %X, want %d, %X", w.Len(), w.Bytes(), len(l), l.bytes())
			}
		}
	}
}

func TestBytesAreTheCallers(t *testing.T) {
	for n := range 40 {
		w, l := begun(n)
		first, second := w.Bytes(), w.Bytes()
		for i := range first {
			first[i] ^= 0xFF
		}
		_ = append(first, 1, 2, 3)
		if !bytes.Equal(second, l.bytes()) || !holds(w, l) {
			t.Fatalf("5.1: Bytes of %d bits shares its memory", n)
		}
		w.Put(0xFFFFFFFF, 32)
		if !bytes.Equal(second, l.bytes()) {
			t.Errorf("5.1: a Put changed what Bytes had answered for %d bits", n)
		}
		l.put(0xFFFFFFFF, 32)
		if !holds(w, l) {
			t.Errorf("5.1: Bytes changed the Writer of %d bits", n)
		}
	}
}

func TestWritersAreApart(t *testing.T) {
	a, b := bits.NewWriter(), bits.NewWriter()
	a.Put(1, 5)
	b.Raw([]byte{7})
	if !bytes.Equal(a.Bytes(), []byte{1}) || !bytes.Equal(b.Bytes(), []byte{7}) || a.Len() != 5 || b.Len() != 8 {
		t.Error("5.1: two Writers share their bits")
	}
}

func TestWriterThatNobodyMade(t *testing.T) {
	for _, w := range []*bits.Writer{nil, {}} {
		if w.Len() != 0 || len(w.Bytes()) != 0 {
			t.Error("5.1: a Writer that nobody made isn't empty")
		}
		w.Put(1, 1)
		w.Code(1, 1)
		w.Align()
		w.Raw([]byte{1})
	}
	var none *bits.Writer
	none.Put(1, 1)
	if none.Len() != 0 || len(none.Bytes()) != 0 {
		t.Error("5.1: a nil Writer got bits")
	}
}

func TestReaderExamples(t *testing.T) {
	b := []byte{0x1D, 0xFF, 0, 0, 0, 0x80}
	r := bits.NewReader(b)
	clear(b)
	if r.At() != 0 {
		t.Errorf("5.2: a new Reader is at %d", r.At())
	}
	if v, code := r.Get(3); v != 5 || code != api.OK || r.At() != 3 {
		t.Errorf("5.2: Get(3) of 1D is %d, %d, at %d", v, code, r.At())
	}
	if v, code := r.Get(33); v != 0 || code != api.ErrArg || r.At() != 3 {
		t.Errorf("5.2: Get(33) is %d, %d, at %d", v, code, r.At())
	}
	r.Align()
	if r.At() != 8 {
		t.Errorf("5.2: Align behind three bits is at %d", r.At())
	}
	if v, code := r.Get(32); v != 0xFF || code != api.OK || r.At() != 40 {
		t.Errorf("5.2: Get(32) of FF 00 00 00 is %X, %d, at %d", v, code, r.At())
	}
}

func TestGet(t *testing.T) {
	b := mixed(10, 2)
	for at := range 8*len(b) + 1 {
		for n := range 33 {
			r := bits.NewReader(b)
			for range at {
				r.Get(1)
			}
			want, fault, then := uint32(0), api.ErrShort, at
			if at+n <= 8*len(b) {
				want, fault, then = get(b, at, n), api.OK, at+n
			}
			if v, code := r.Get(n); v != want || code != fault || r.At() != then {
				t.Fatalf("5.2: Get(%d) at %d of 80 is %X, %d, at %d, want %X, %d", n, at, v, code, r.At(), want, fault)
			}
		}
	}
}

func TestGetOutside(t *testing.T) {
	for _, b := range [][]byte{nil, {}, {0x1D}, mixed(100, 3)} {
		for ahead := range min(8*len(b), 9) + 1 {
			r := bits.NewReader(b)
			r.Get(ahead)
			for _, n := range outside {
				if v, code := r.Get(n); v != 0 || code != api.ErrArg || r.At() != ahead {
					t.Errorf("5.2: Get(%d) at %d of %d bytes is %d, %d, at %d", n, ahead, len(b), v, code, r.At())
				}
			}
		}
	}
}

func TestGetTooMany(t *testing.T) {
	r := bits.NewReader([]byte{0xB4, 0x6B})
	r.Get(5)
	for n := 12; n <= 32; n++ {
		if v, code := r.Get(n); v != 0 || code != api.ErrShort || r.At() != 5 {
			t.Errorf("5.2: Get(%d) of 11 bits is %X, %d, at %d", n, v, code, r.At())
		}
	}
	if v, code := r.Get(11); v != 0x6BB4>>5 || code != api.OK || r.At() != 16 {
		t.Errorf("5.2: Get(11) behind errors is %X, %d, at %d", v, code, r.At())
	}
	if v, code := r.Get(0); v != 0 || code != api.OK || r.At() != 16 {
		t.Errorf("5.2: Get(0) at the end is %X, %d, at %d", v, code, r.At())
	}
	if v, code := r.Get(1); v != 0 || code != api.ErrShort || r.At() != 16 {
		t.Errorf("5.2: Get(1) at the end is %X, %d, at %d", v, code, r.At())
	}
}

func TestReaderAlign(t *testing.T) {
	b := mixed(4, 4)
	for at := range 8*len(b) + 1 {
		r := bits.NewReader(b)
		r.Get(at)
		for range 2 {
			r.Align()
			if want := (at + 7) / 8 * 8; r.At() != want {
				t.Errorf("5.2: Align at %d is at %d", at, r.At())
			}
		}
		if left := 8*len(b) - r.At(); left > 0 {
			if v, code := r.Get(8); v != uint32(b[r.At()/8-1]) || code != api.OK {
				t.Errorf("5.2: Get(8) behind Align at %d is %X, %d", at, v, code)
			}
		} else if _, code := r.Get(1); code != api.ErrShort {
			t.Errorf("5.2: Align at %d left bits", at)
		}
	}
}

func TestReaderAlignOfNothing(t *testing.T) {
	r := bits.NewReader(nil)
	r.Align()
	if r.At() != 0 {
		t.Errorf("5.2: Align of no bytes is at %d", r.At())
	}
}

func TestReaderKeepsACopy(t *testing.T) {
	b := mixed(50, 5)
	old := slices.Clone(b)
	r := bits.NewReader(b)
	for i, want := range old {
		v, code := r.Get(8)
		if v != uint32(want) || code != api.OK {
			t.Fatalf("5.2: byte %d is %X, %d, want %X", i, v, code, want)
		}
		if i == 0 && !bytes.Equal(b, old) {
			t.Fatal("5.2: the Reader changed the bytes that it was given")
		}
		clear(b)
	}
}

func TestReadersAreApart(t *testing.T) {
	b := mixed(4, 6)
	first, second := bits.NewReader(b), bits.NewReader(b)
	first.Get(9)
	if v, code := second.Get(32); v != get(b, 0, 32) || code != api.OK || first.At() != 9 {
		t.Errorf("5.2: two Readers share their position: %X, %d, at %d", v, code, first.At())
	}
}

func TestReaderThatNobodyMade(t *testing.T) {
	for _, r := range []*bits.Reader{nil, {}} {
		r.Align()
		for n, want := range map[int]api.Errno{0: api.OK, 1: api.ErrShort, 32: api.ErrShort, 33: api.ErrArg, -1: api.ErrArg} {
			if v, code := r.Get(n); v != 0 || code != want {
				t.Errorf("5.2: Get(%d) of a Reader that nobody made is %d, %d", n, v, code)
			}
		}
		if r.At() != 0 {
			t.Errorf("5.2: a Reader that nobody made is at %d", r.At())
		}
	}
}

// written is one call of a Writer, as a Reader has to answer it.
type written struct {
	v    uint32
	n    int
	code bool
	raw  []byte // Align and bytes, if not nil
}

// write writes calls drawn at random, and returns them.
func write(w *bits.Writer, random *rand.Rand, calls int) (l []written) {
	for range calls {
		x := written{v: random.Uint32(), n: 1 + random.IntN(32), code: random.IntN(2) == 0}
		switch {
		case random.IntN(9) == 0:
			x.raw = append([]byte{}, mixed(random.IntN(9), byte(x.v))...)
			w.Raw(x.raw)
		case x.code:
			w.Code(x.v, x.n)
		default:
			w.Put(x.v, x.n)
		}
		l = append(l, x)
	}
	return l
}

// reads tells whether a Reader answers what was written.
func reads(r *bits.Reader, x written) bool {
	if x.raw != nil {
		r.Align()
		for _, want := range x.raw {
			if v, code := r.Get(8); v != uint32(want) || code != api.OK {
				return false
			}
		}
		return true
	}
	want, got := x.v<<(32-x.n)>>(32-x.n), uint32(0)
	if !x.code {
		v, code := r.Get(x.n)
		return v == want && code == api.OK
	}
	for range x.n {
		v, code := r.Get(1)
		if code != api.OK {
			return false
		}
		got = got<<1 | v
	}
	return got == want
}

func TestWrittenIsRead(t *testing.T) {
	random := rand.New(rand.NewPCG(3, 4))
	for range 2000 {
		w := bits.NewWriter()
		l := write(w, random, random.IntN(100))
		r := bits.NewReader(w.Bytes())
		for i, x := range l {
			if !reads(r, x) {
				t.Fatalf("5.3: call %d of %d isn't read as %+v was written", i, len(l), x)
			}
		}
		if r.At() != w.Len() {
			t.Fatalf("5.3: %d bits were read of %d", r.At(), w.Len())
		}
		rest := 8*len(w.Bytes()) - w.Len()
		if v, code := r.Get(rest); rest > 7 || v != 0 || code != api.OK {
			t.Fatalf("5.3: behind the bits written follow %d, %X, %d", rest, v, code)
		}
		if _, code := r.Get(1); code != api.ErrShort {
			t.Fatal("5.3: more bits are read than a last byte has")
		}
	}
}

func TestManyWrittenAreRead(t *testing.T) {
	w := bits.NewWriter()
	l := write(w, rand.New(rand.NewPCG(5, 6)), 1<<18)
	r := bits.NewReader(w.Bytes())
	for i, x := range l {
		if !reads(r, x) {
			t.Fatalf("5.3: call %d of %d isn't read as %+v was written", i, len(l), x)
		}
	}
}
