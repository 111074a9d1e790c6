package inflate_test

import (
	"bytes"
	"compress/flate"
	"encoding/hex"
	"math"
	"math/rand/v2"
	"slices"
	"strings"
	"sync"
	"testing"

	"stevedore/api"
	"stevedore/inflate"
	"stevedore/lz"
)

// What chapter 12 allows.
const (
	widest   = 65536
	usual    = 32768
	maxBytes = 1 << 30
	mostHeld = 1000
)

// extremes are numbers that are far beyond any bound.
var extremes = []int{
	math.MinInt, math.MinInt + 1, -1 << 40, -1 << 32, 1 - 1<<32, math.MinInt32, -1 << 16, -257, -1,
	math.MaxInt32, 1 << 31, 1 << 32, 1<<32 + 1, 1<<32 + 257, 1 << 40, math.MaxInt - 1, math.MaxInt,
}

// unhex returns the bytes of a text of hexadecimal digits.
func unhex(text string) []byte {
	b, err := hex.DecodeString(strings.ReplaceAll(text, " ", ""))
	if err != nil {
		panic(err)
	}
	return b
}

// source returns random numbers, the same ones every time.
func source(seed uint64) *rand.Rand { return rand.New(rand.NewPCG(seed, 12)) }

// made returns a decompressor.
func made(t *testing.T, wide bool, size, most int) *inflate.Inflate {
	t.Helper()
	x, code := inflate.New(wide, size, most)
	if x == nil || code != api.OK {
		t.Fatalf("12.1: New(%t, %d, %d) is %v, %d", wide, size, most, x, code)
	}
	return x
}

// follows pushes b to a new decompressor, in parts of the lengths that part
// returns, and tells whether all that is to be seen is as the trace says.
func follows(t *testing.T, tr trace, b []byte, wide bool, size, most int, part func() int) {
	t.Helper()
	x := made(t, wide, size, most)
	var all []byte
	at := 0
	for at < len(b) {
		n := min(part(), len(b)-at)
		out, code := x.Push(b[at : at+n])
		at += n
		all = append(all, out...)
		want, wantCode := tr.seen(at)
		if !bytes.Equal(all, want) || code != wantCode {
			t.Fatalf("12.1: behind %d bytes of %x (wide %t, size %d, most %d) there are %d bytes (%.40x) and %d, not %d (%.40x) and %d",
				at, b, wide, size, most, len(all), all, code, len(want), want, wantCode)
		}
		tells(t, x, tr, at, len(all), code)
	}
	out, code := x.End()
	wantCode := tr.code
	if wantCode == api.ErrShort {
		wantCode = api.ErrForm
	}
	if len(out) > 0 || code != wantCode {
		t.Fatalf("12.1: End behind %x is %x, %d, not %d", b, out, code, wantCode)
	}
	tells(t, x, tr, len(b), len(all), code)
}

// tells tells whether x counts well behind a Push or End of this code.
func tells(t *testing.T, x *inflate.Inflate, tr trace, pushed, total int, code api.Errno) {
	t.Helper()
	used := 0
	if code == api.OK {
		used = tr.used()
	}
	if x.Used() != used || x.Total() != total {
		t.Fatalf("12.1: behind %d bytes and %d, Used is %d and Total %d, not %d and %d", pushed, code, x.Used(), x.Total(), used, total)
	}
	held := 0
	if code == api.ErrShort {
		held = min(mostHeld, pushed)
	}
	if n := x.Held(); n < 0 || n > held {
		t.Fatalf("12.1: behind %d bytes and %d, Held is %d", pushed, code, n)
	}
}

// one is a part of one byte.
func one() int { return 1 }

// parts returns parts of any length.
func parts(r *rand.Rand) func() int { return func() int { return r.IntN(30) } }

// wholly tells whether All and an Inflate make of b what the trace says,
// however it is divided.
func wholly(t *testing.T, b []byte, wide bool, size, most int, r *rand.Rand) {
	t.Helper()
	tr := traced(b, wide, size, most)
	out, used, code := inflate.All(b, wide, size, most)
	want := tr
	if want.code == api.ErrShort {
		want.code = api.ErrForm
	}
	if want.code != api.OK {
		want.out = nil
	}
	if !bytes.Equal(out, want.out) || used != want.used() || code != want.code {
		t.Fatalf("12.2: All(%x, %t, %d, %d) is %.40x (%d bytes), %d, %d, not %.40x (%d bytes), %d, %d",
			b, wide, size, most, out, len(out), used, code, want.out, len(want.out), want.used(), want.code)
	}
	follows(t, tr, b, wide, size, most, func() int { return max(1, len(b)) })
	follows(t, tr, b, wide, size, most, one)
	follows(t, tr, b, wide, size, most, parts(r))
}

func TestBaseAndFar(t *testing.T) {
	symbols := slices.Clone(extremes)
	for s := -5; s < 700; s++ {
		symbols = append(symbols, s)
	}
	for _, s := range symbols {
		for _, wide := range []bool{false, true} {
			want := lengthOf(s, wide)
			if n, extra, ok := inflate.Base(s, wide); (symbol{n, extra}) != want || ok != (want.least > 0) {
				t.Errorf("12.1: Base(%d, %t) is %d, %d, %t, not %v", s, wide, n, extra, ok, want)
			}
			want = distanceOf(s, wide)
			if n, extra, ok := inflate.Far(s, wide); (symbol{n, extra}) != want || ok != (want.least > 0) {
				t.Errorf("12.1: Far(%d, %t) is %d, %d, %t, not %v", s, wide, n, extra, ok, want)
			}
		}
	}
}

func TestNew(t *testing.T) {
	type bound struct {
		n  int
		ok bool
	}
	sizes := []bound{{0, false}, {1, true}, {2, true}, {usual, true}, {widest - 1, true}, {widest, true}, {widest + 1, false}}
	mosts := []bound{{-1, false}, {0, true}, {1, true}, {maxBytes - 1, true}, {maxBytes, true}, {maxBytes + 1, false}}
	for _, n := range extremes {
		sizes = append(sizes, bound{n, false})
		mosts = append(mosts, bound{n, false})
	}
	for _, size := range sizes {
		for _, most := range mosts {
			for _, wide := range []bool{false, true} {
				x, code := inflate.New(wide, size.n, most.n)
				ok := size.ok && most.ok
				if ok && (x == nil || code != api.OK) || !ok && (x != nil || code != api.ErrRange) {
					t.Errorf("12.1: New(%t, %d, %d) is %v, %d", wide, size.n, most.n, x, code)
				}
				want := api.OK
				if !ok {
					want = api.ErrRange
				}
				out, used, code := inflate.All([]byte{3, 0}, wide, size.n, most.n)
				if len(out) > 0 || code != want || used != 2 && ok || used != 0 && !ok {
					t.Errorf("12.2: All with size %d and most %d is %x, %d, %d", size.n, most.n, out, used, code)
				}
			}
		}
	}
}

// TestExamples has the chapter's examples, and streams that are written out
// by hand.
func TestExamples(t *testing.T) {
	for _, s := range []struct {
		in   string
		most int
		out  string
		used int
		code api.Errno
	}{
		{"03 00", 100, "", 2, api.OK},
		{"03 00", 0, "", 2, api.OK},
		{"03 00 FF 07", 100, "", 2, api.OK},
		{"4B 04 00", 100, "a", 3, api.OK},
		{"4B 04 00 00", 1, "a", 3, api.OK},
		{"4B 04 00", 0, "", 0, api.ErrLimit},
		{"4B 04", 100, "", 0, api.ErrForm},
		{"01 01 00 FE FF 61", 100, "a", 6, api.OK},
		{"01 01 00 FE FF 61", 1, "a", 6, api.OK},
		{"01 01 00 FE FF 61", 0, "", 0, api.ErrLimit},
		{"01 01 00 FE FF", 0, "", 0, api.ErrForm},
		{"F9 01 00 FE FF 61 61", 100, "a", 6, api.OK},
		{"01 00 00 FF FF", 0, "", 5, api.OK},
		{"00 00 00 FF FF 03 00", 0, "", 7, api.OK},
		{"00 00 00 FF FF", 0, "", 0, api.ErrForm},
		{"01 01 00 FE FE 61", 100, "", 0, api.ErrForm},
		{"01 01 00 FF FF 61", 100, "", 0, api.ErrForm},
		{"01 02 00 FD FF 61", 100, "", 0, api.ErrForm},
		{"07", 100, "", 0, api.ErrForm},
		{"06", 100, "", 0, api.ErrForm},
		{"", 100, "", 0, api.ErrForm},
	} {
		out, used, code := inflate.All(unhex(s.in), false, usual, s.most)
		if string(out) != s.out || used != s.used || code != s.code {
			t.Errorf("12.2: All(%s, false, %d, %d) is %q, %d, %d", s.in, usual, s.most, out, used, code)
		}
		wholly(t, unhex(s.in), false, usual, s.most, source(0))
	}
}

// TestPushes has the chapter's examples of the calls one by one.
func TestPushes(t *testing.T) {
	x := made(t, false, usual, 100)
	if out, code := x.Push([]byte{3}); len(out) > 0 || code != api.ErrShort || x.Used() != 0 {
		t.Errorf("12.1: Push of 03 is %x, %d", out, code)
	}
	if out, code := x.Push([]byte{0}); len(out) > 0 || code != api.OK || x.Used() != 2 {
		t.Errorf("12.1: Push of 03 and 00 is %x, %d, with %d used", out, code, x.Used())
	}
	if out, code := x.End(); len(out) > 0 || code != api.OK || x.Used() != 2 {
		t.Errorf("12.1: End behind 03 00 is %x, %d", out, code)
	}
	x = made(t, false, usual, 100)
	if out, code := x.Push(unhex("01 01 00 FE FF")); len(out) > 0 || code != api.ErrShort {
		t.Errorf("12.1: Push of a header is %x, %d", out, code)
	}
	if out, code := x.Push([]byte("a")); string(out) != "a" || code != api.OK || x.Total() != 1 {
		t.Errorf("12.1: Push of the byte behind it is %x, %d, in all %d", out, code, x.Total())
	}
	x = made(t, false, usual, 100)
	if out, code := x.Push([]byte{7}); len(out) > 0 || code != api.ErrForm {
		t.Errorf("12.1: Push of 07 is %x, %d", out, code)
	}
	x = made(t, false, usual, 100)
	if out, code := x.Push(nil); len(out) > 0 || code != api.ErrShort {
		t.Errorf("12.1: Push of nothing is %x, %d", out, code)
	}
	if out, code := x.End(); len(out) > 0 || code != api.ErrForm {
		t.Errorf("12.1: End without a stream is %x, %d", out, code)
	}
}

// TestStays is of what follows OK or an error: the same code, and no output.
func TestStays(t *testing.T) {
	for _, s := range []struct {
		in   string
		ends bool
		most int
		code api.Errno
		used int
	}{
		{"4B 04 00", false, 100, api.OK, 3},
		{"4B 04 00", true, 100, api.OK, 3},
		{"07", false, 100, api.ErrForm, 0},
		{"07", true, 100, api.ErrForm, 0},
		{"4B 04", true, 100, api.ErrForm, 0},
		{"", true, 100, api.ErrForm, 0},
		{"4B 04 00", false, 0, api.ErrLimit, 0},
		{"4B 04 00", true, 0, api.ErrLimit, 0},
	} {
		x := made(t, false, usual, s.most)
		x.Push(unhex(s.in))
		if s.ends {
			x.End()
		}
		total := x.Total()
		for _, b := range [][]byte{{0}, nil, unhex("4B 04 00"), make([]byte, 5000), {7}} {
			if out, code := x.Push(b); len(out) > 0 || code != s.code {
				t.Errorf("12.1: a Push behind %s is %x, %d", s.in, out, code)
			}
			if out, code := x.End(); len(out) > 0 || code != s.code {
				t.Errorf("12.1: an End behind %s is %x, %d", s.in, out, code)
			}
			if x.Used() != s.used || x.Total() != total || x.Held() != 0 {
				t.Errorf("12.1: behind %s and %d more bytes, Used, Total and Held are %d, %d, %d", s.in, len(b), x.Used(), x.Total(), x.Held())
			}
		}
	}
}

func TestNilAndZero(t *testing.T) {
	for _, x := range []*inflate.Inflate{nil, {}} {
		for range 2 {
			if out, code := x.Push([]byte{3, 0}); out != nil || code != api.ErrArg {
				t.Errorf("12.1: Push to a nil or zero Inflate is %x, %d", out, code)
			}
			if out, code := x.End(); out != nil || code != api.ErrArg {
				t.Errorf("12.1: End of a nil or zero Inflate is %x, %d", out, code)
			}
			if x.Used() != 0 || x.Total() != 0 || x.Held() != 0 {
				t.Errorf("12.1: a nil or zero Inflate has Used %d, Total %d, Held %d", x.Used(), x.Total(), x.Held())
			}
		}
	}
}

// TestGo is of streams that another program wrote.
func TestGo(t *testing.T) {
	r := source(1)
	samples := []string{"", "a", strings.Repeat("a", 100000), text(r, 70000), strings.Repeat(text(r, 700), 200)}
	mixed := make([]byte, 150000)
	rand.NewChaCha8([32]byte{}).Read(mixed)
	samples = append(samples, string(mixed), string(mixed[:40000])+strings.Repeat(string(mixed[:33000]), 3))
	for level := -2; level <= 9; level++ {
		for _, s := range samples {
			var b bytes.Buffer
			w, _ := flate.NewWriter(&b, level)
			w.Write([]byte(s[:len(s)/3]))
			w.Flush()
			w.Write([]byte(s[len(s)/3:]))
			w.Close()
			out, used, code := inflate.All(append(b.Bytes(), 1, 2, 3), false, usual, len(s))
			if string(out) != s || used != b.Len() || code != api.OK {
				t.Fatalf("12.2: All of %d bytes at level %d is %d bytes, %d, %d", len(s), level, len(out), used, code)
			}
			if len(s) == 0 {
				continue
			}
			if out, used, code := inflate.All(b.Bytes(), false, usual, len(s)-1); len(out) > 0 || used != 0 || code != api.ErrLimit {
				t.Fatalf("12.2: All of one byte more than most is %d bytes, %d, %d", len(out), used, code)
			}
			divided(t, b.Bytes(), s, parts(r))
		}
	}
}

// divided tells whether b is s, in parts of any length.
func divided(t *testing.T, b []byte, s string, part func() int) {
	t.Helper()
	x := made(t, false, usual, maxBytes)
	var all []byte
	code := api.ErrShort
	for at := 0; at < len(b); {
		n := min(part(), len(b)-at)
		var out []byte
		out, code = x.Push(b[at : at+n])
		all = append(all, out...)
		at += n
		if held := x.Held(); held > mostHeld || code == api.OK && held != 0 {
			t.Fatalf("12.1: Held is %d behind %d", held, code)
		}
	}
	if string(all) != s || code != api.OK || x.Used() != len(b) || x.Total() != len(s) {
		t.Fatalf("12.3: %d bytes in parts are %d bytes, %d, %d, %d", len(b), len(all), code, x.Used(), x.Total())
	}
}

// TestRandom is of streams with all kinds of blocks and codes.
func TestRandom(t *testing.T) {
	for seed := range uint64(400) {
		r := source(seed)
		w := begun(seed%2 == 1, r)
		size := []int{1, 2, 100, 1000, usual, widest}[r.IntN(6)]
		l := w.random(1+r.IntN(5), 1+r.IntN(60), size)
		want, _, _ := lz.Expand(l, w.wide)
		b := w.Bytes()
		out, used, code := inflate.All(b, w.wide, size, len(want))
		if !bytes.Equal(out, want) || used != len(b) || code != api.OK {
			t.Fatalf("12.2: All(%x, %t, %d, %d) is %d bytes, %d, %d", b, w.wide, size, len(want), len(out), used, code)
		}
		wholly(t, append(b, 7, 7), w.wide, size, len(want), r)
	}
}

// TestBroken is of streams with a wrong bit, of streams that are cut off, and
// of those that are too long, or reach too far back.
func TestBroken(t *testing.T) {
	for seed := range uint64(2000) {
		r := source(1000 + seed)
		w := begun(seed%2 == 1, r)
		l := w.random(1+r.IntN(3), 1+r.IntN(20), widest)
		b, size, most := w.Bytes(), widest, lz.Size(l)
		if r.IntN(3) > 0 {
			for range 1 + r.IntN(3) {
				b[r.IntN(len(b))] ^= 1 << r.IntN(8)
			}
			most += 1000
		}
		if r.IntN(3) == 0 {
			b = b[:r.IntN(len(b)+1)]
		}
		if r.IntN(3) == 0 {
			size = 1 + r.IntN(40)
		}
		if r.IntN(2) == 0 {
			most = r.IntN(most + 1)
		}
		wholly(t, b, w.wide, size, most, r)
	}
}

// TestNoise is of bytes that nobody wrote as a stream.
func TestNoise(t *testing.T) {
	r := source(2)
	for i := range 5000 {
		b := make([]byte, r.IntN(40))
		for i := range b {
			b[i] = byte(r.Uint32())
		}
		wholly(t, b, i%2 == 1, 1+r.IntN(100), r.IntN(400), r)
	}
	for c := 0; c < 256*256; c += 15 {
		wholly(t, []byte{byte(c), byte(c >> 8)}, false, usual, 100, r)
	}
}

// TestAlone is of results and arguments that share no memory.
func TestAlone(t *testing.T) {
	w := begun(false, source(3))
	l := w.random(6, 200, usual)
	want, _, _ := lz.Expand(l, false)
	b := w.Bytes()
	kept := slices.Clone(b)
	x := made(t, false, usual, maxBytes)
	var all []byte
	for at := range b {
		part := []byte{b[at]}
		out, _ := x.Push(part)
		if part[0] != b[at] {
			t.Fatal("rule 2: Push changes its argument")
		}
		part[0] ^= 0xFF
		all = append(all, out...)
		for i := range out {
			out[i] ^= 0xFF
		}
		_ = append(out, 1, 2, 3)
	}
	if !bytes.Equal(all, want) {
		t.Error("rule 2: an output is changed, and the next ones with it")
	}
	first, _, _ := inflate.All(b, false, usual, maxBytes)
	clear(first)
	second, _, _ := inflate.All(b, false, usual, maxBytes)
	if !bytes.Equal(second, want) || !bytes.Equal(b, kept) {
		t.Error("rule 2: All changes its argument, or answers what it answered before")
	}
}

// TestTogether is of rule 3: the same calls have the same answers, whatever
// other streams do.
func TestTogether(t *testing.T) {
	w := begun(true, source(4))
	l := w.random(8, 300, widest)
	want, _, _ := lz.Expand(l, true)
	b := w.Bytes()
	var group sync.WaitGroup
	for range 8 {
		group.Go(func() {
			x, _ := inflate.New(true, widest, maxBytes)
			var all []byte
			for _, c := range b {
				out, _ := x.Push([]byte{c})
				all = append(all, out...)
			}
			if !bytes.Equal(all, want) || x.Used() != len(b) {
				t.Error("12.3: a stream is another one the next time")
			}
		})
	}
	group.Wait()
}
