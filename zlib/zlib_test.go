package zlib_test

import (
	"bytes"
	gozlib "compress/zlib"
	"fmt"
	"hash/adler32"
	"io"
	"math"
	"math/rand/v2"
	"runtime"
	"slices"
	"strings"
	"sync"
	"testing"

	"stevedore/api"
	"stevedore/bits"
	"stevedore/deflate"
	"stevedore/zlib"
)

// hello is "hello" in seven compressed bytes, letter is "a" in three, none is
// nothing in two, and usual is the header that is written.
const (
	hello  = "\xcb\x48\xcd\xc9\xc9\x07\x00"
	letter = "\x4b\x04\x00"
	none   = "\x03\x00"
	usual  = "\x78\x9c"
)

// extremes are numbers that are far beyond any bound.
var extremes = []int{
	math.MinInt, math.MinInt + 1, -1 << 40, -1 << 32, 1 - 1<<32, math.MinInt32, -maxBytes, -2, -1,
	maxBytes + 1, math.MaxInt32, 1 << 31, 1<<32 - 1, 1 << 32, 1<<32 + 1, 1 << 40, math.MaxInt - 1, math.MaxInt,
}

// efforts are of all levels, and none.
var efforts = []float64{0, 1, 2, 3, 4, 5, 6, 7, 8, 9, nan}

// told returns the beginning of what a value is.
func told(v any) string { return fmt.Sprintf("%.300s", fmt.Sprintf("%#v", v)) }

// reads asks whether Read answers as the model does.
func reads(t *testing.T, b []byte) (int, api.Errno) {
	t.Helper()
	before := bytes.Clone(b)
	size, code := zlib.Read(b)
	if want, wantCode := readModel(b); size != want || code != wantCode {
		t.Fatalf("18.1: Read(%.60x), %d bytes, is %d, %d, not %d, %d", b, len(b), size, code, want, wantCode)
	}
	if !bytes.Equal(b, before) {
		t.Fatalf("18.1: Read(%.60x) changes its bytes", before)
	}
	return size, code
}

// expands asks whether All answers as the model does.
func expands(t *testing.T, b []byte, most int, ratio float64) ([]byte, int, api.Errno) {
	t.Helper()
	before := bytes.Clone(b)
	out, used, code := zlib.All(b, most, ratio)
	want, wantUsed, wantCode := allModel(b, most, ratio)
	if !bytes.Equal(out, want) || used != wantUsed || code != wantCode {
		t.Fatalf("18.2: All(%.60x, %d, %v), %d bytes, is %.40x (%d bytes), %d, %d, not %.40x (%d bytes), %d, %d",
			b, most, ratio, len(b), out, len(out), used, code, want, len(want), wantUsed, wantCode)
	}
	if !bytes.Equal(b, before) {
		t.Fatalf("18.2: All(%.60x) changes its bytes", before)
	}
	return out, used, code
}

// stream returns a stream of a text that is packed so.
func stream(packed, text string) []byte {
	return zlib.Wrap([]byte(packed), adler32.Checksum([]byte(text)))
}

// mixed returns some bytes that are partly easy to compress.
func mixed(r *rand.Rand, n int) []byte {
	b := make([]byte, n)
	for i := range b {
		b[i] = "abcdefgh"[r.IntN(8)]
		if i > 20 && r.IntN(20) > 0 {
			b[i] = b[i-1-i%19]
		}
		if r.IntN(50) == 0 {
			b[i] = byte(r.IntN(256))
		}
	}
	return b
}

func TestExamples(t *testing.T) {
	for _, x := range []struct {
		b    string
		size int
		code api.Errno
	}{{"\x78\x9c", 32768, api.OK}, {"\x08\x1d", 256, api.OK}, {"\x78", 0, api.ErrShort}, {"\x78\x9d", 0, api.ErrForm}} {
		if size, code := reads(t, []byte(x.b)); size != x.size || code != x.code {
			t.Errorf("18.1: Read(%x) is %d, %d", x.b, size, code)
		}
	}
	if b := zlib.Wrap([]byte(hello), 7); len(b) != 13 || string(b[:2]) != usual {
		t.Errorf("18.1: Wrap of seven bytes is %x", b)
	}
	if out, used, code := expands(t, []byte("\x78\x9c\x03\x00\x00\x00\x00\x01"), 0, 0); len(out) != 0 || used != 2 || code != api.OK {
		t.Errorf("18.2: All of the shortest stream is %x, %d, %d", out, used, code)
	}
}

// TestReadEvery has all headers that there are, with and without something
// behind them.
func TestReadEvery(t *testing.T) {
	formed := 0
	sizes := map[int]int{}
	for n := range 1 << 16 {
		b := []byte{byte(n >> 8), byte(n)}
		size, code := reads(t, b)
		if more, moreCode := reads(t, append(b, 0, 1, 2)); more != size || moreCode != code {
			t.Fatalf("18.1: Read(%x) hangs on what follows", b)
		}
		if code == api.OK {
			formed++
			sizes[size]++
		}
	}
	if formed < 30 || formed != len(allHeads) || len(sizes) != 8 || sizes[256] == 0 || sizes[32768] == 0 {
		t.Errorf("18.1: %d headers are well formed, with windows of %v", formed, sizes)
	}
}

// TestReadShort has too few bytes: that comes first, whatever they are.
func TestReadShort(t *testing.T) {
	for _, b := range [][]byte{nil, {}} {
		if size, code := reads(t, b); size != 0 || code != api.ErrShort {
			t.Errorf("18.1: Read of no bytes is %d, %d", size, code)
		}
		if _, _, code := expands(t, b, 1, nan); code != api.ErrForm {
			t.Errorf("18.2: All of no bytes is %d", code)
		}
	}
	for c := range 256 {
		if size, code := reads(t, []byte{byte(c)}); size != 0 || code != api.ErrShort {
			t.Errorf("18.1: Read(%x) is %d, %d", c, size, code)
		}
		if _, _, code := expands(t, []byte{byte(c)}, 1, nan); code != api.ErrForm {
			t.Errorf("18.2: All(%x) is %d", c, code)
		}
	}
}

// TestReadOne has headers with one fault each.
func TestReadOne(t *testing.T) {
	for _, x := range []struct {
		what, b string
	}{
		{"the method 7", "\x77\x85"}, {"the method 9", "\x79\x91"}, {"the method 0", "\x70\x00"}, {"the method 15", "\x7f\x9f"},
		{"a window of 65536 bytes", "\x88\x1c"}, {"the widest window", "\xf8\x1e"},
		{"a sum of one more", "\x78\x9d"}, {"a sum of one less", "\x78\x9b"}, {"a sum without the rest", "\x78\x00"},
		{"a dictionary", "\x78\x20"}, {"a dictionary, best", "\x78\xf9"}, {"a dictionary, window 256", "\x08\x3c"},
	} {
		if size, code := reads(t, []byte(x.b)); size != 0 || code != api.ErrForm {
			t.Errorf("18.1: Read of a header with %s is %d, %d", x.what, size, code)
		}
		if _, _, code := expands(t, []byte(x.b+"\x03\x00\x00\x00\x00\x01"), 0, nan); code != api.ErrForm {
			t.Errorf("18.2: All of a stream with %s is %d", x.what, code)
		}
	}
}

func TestWrap(t *testing.T) {
	for _, packed := range []string{"", "\x00", none, hello, strings.Repeat("packed", 20000)} {
		for _, sum := range []uint32{0, 1, 0x04030201, 1 << 31, 1<<32 - 1} {
			b := zlib.Wrap([]byte(packed), sum)
			want := "\x78\x9c" + packed + string([]byte{byte(sum >> 24), byte(sum >> 16), byte(sum >> 8), byte(sum)})
			if string(b) != want {
				t.Fatalf("18.1: Wrap(%.20x, %x) is %.80x, not %.80x", packed, sum, b, want)
			}
		}
	}
	if b := zlib.Wrap(nil, 1); string(b) != "\x78\x9c\x00\x00\x00\x01" {
		t.Errorf("18.1: Wrap of nothing is %x", b)
	}
}

// TestAllOne has bytes of many lengths, packed in many ways.
func TestAllOne(t *testing.T) {
	r := source(2)
	for _, n := range []int{0, 1, 2, 100, 255, 256, 257, 5000, 65535, 65536, 200000} {
		data := mixed(r, n)
		for _, e := range efforts {
			packed := deflate.All(data, e, false)
			b := zlib.Wrap(packed, adler32.Checksum(data))
			if size, code := reads(t, b); size != 32768 || code != api.OK {
				t.Fatalf("18.3: Read of what was wrapped is %d, %d", size, code)
			}
			out, used, code := expands(t, b, n, nan)
			if !bytes.Equal(out, data) || used != len(packed) || code != api.OK {
				t.Fatalf("18.3: All of %d bytes, effort %v, is %d bytes, %d, %d", n, e, len(out), used, code)
			}
			if n > 0 {
				if _, _, code := expands(t, b, n-1, nan); code != api.ErrLimit {
					t.Fatalf("18.2: All of %d bytes, effort %v, with room for one less is %d", n, e, code)
				}
			}
			for _, more := range []string{"\x00", "\x78", string(b)} {
				if _, _, code := expands(t, append(bytes.Clone(b), more...), maxBytes, nan); code != api.ErrForm {
					t.Fatalf("18.2: All of %d bytes and something behind them is %d", n, code)
				}
			}
		}
	}
}

func TestArguments(t *testing.T) {
	b := stream(hello, "hello")
	for _, most := range extremes {
		for _, b := range [][]byte{nil, b, b[:1], []byte("wrong")} {
			if out, used, code := zlib.All(b, most, nan); len(out) != 0 || used != 0 || code != api.ErrArg {
				t.Errorf("18.2: All with most %d is %x, %d, %d", most, out, used, code)
			}
		}
	}
	for most := range 10 {
		expands(t, b, most, nan)
	}
	for _, most := range []int{maxBytes - 1, maxBytes} {
		if out, used, code := expands(t, b, most, nan); string(out) != "hello" || used != 7 || code != api.OK {
			t.Errorf("18.2: All with most %d is %q, %d, %d", most, out, used, code)
		}
	}
}

// TestRatio has ratios about those that there are, and such as are no numbers.
func TestRatio(t *testing.T) {
	below := func(x float64) float64 { return math.Nextafter(x, -inf) }
	for _, x := range []struct {
		packed, text string
		ratio        float64
		code         api.Errno
	}{
		{hello, "hello", 5.0 / 7, api.OK}, {hello, "hello", 0.7, api.ErrLimit}, {hello, "hello", 0.714, api.ErrLimit}, {hello, "hello", 0.715, api.OK},
		{hello, "hello", nan, api.OK}, {hello, "hello", inf, api.OK}, {hello, "hello", 1e308, api.OK}, {hello, "hello", math.MaxFloat64, api.OK},
		{hello, "hello", 0, api.ErrLimit}, {hello, "hello", minusZero, api.ErrLimit}, {hello, "hello", -1, api.ErrLimit}, {hello, "hello", -inf, api.ErrLimit},
		{hello, "hello", math.SmallestNonzeroFloat64, api.ErrLimit}, {hello, "hello", -math.MaxFloat64, api.ErrLimit},
		// Three thirds are 1 when they are rounded, and less when they aren't.
		{letter, "a", 1.0 / 3, api.OK}, {letter, "a", below(below(1.0 / 3)), api.ErrLimit},
		{none, "", 0, api.OK}, {none, "", minusZero, api.OK}, {none, "", nan, api.OK}, {none, "", inf, api.OK}, {none, "", 1, api.OK},
		{none, "", -math.SmallestNonzeroFloat64, api.ErrLimit}, {none, "", -1, api.ErrLimit}, {none, "", -inf, api.ErrLimit},
	} {
		if _, _, code := expands(t, stream(x.packed, x.text), 100, x.ratio); code != x.code {
			t.Errorf("18.2: All of %q with the ratio %v is %d, not %d", x.text, x.ratio, code, x.code)
		}
	}
	data := make([]byte, 4400)
	packed := deflate.All(data, 9, false)
	b := zlib.Wrap(packed, adler32.Checksum(data))
	exact := 4400 / float64(len(packed))
	for _, ratio := range []float64{exact, below(exact), below(below(exact)), exact + 1, exact - 1, 1, 4400} {
		expands(t, b, 4400, ratio)
	}
}

// TestOrder has two errors each; the one that is named first is answered.
func TestOrder(t *testing.T) {
	good := string(stream(hello, "hello"))
	wrongSum := good[:len(good)-1] + "\x00"
	for _, x := range []struct {
		what, b string
		most    int
		ratio   float64
		code    api.Errno
	}{
		{"a wrong header, and too many bytes", "\x78\x9d" + good[2:], 4, 0, api.ErrForm},
		{"a dictionary, and too many bytes", "\x78\xbb" + good[2:], 4, 0, api.ErrForm},
		{"half a header", good[:1], 4, 0, api.ErrForm},
		{"a header alone", good[:2], 4, 0, api.ErrForm},
		{"too many bytes, and half a stream", good[:8], 4, nan, api.ErrLimit},
		{"half a stream", good[:8], 5, nan, api.ErrForm},
		{"half a stream, and the ratio", good[:8], 5, 0, api.ErrForm},
		{"a wrong stream, and the ratio", usual + "\x07" + good[2:], 5, 0, api.ErrForm},
		{"too many bytes, and a wrong checksum", wrongSum, 4, nan, api.ErrLimit},
		{"the ratio, and a wrong checksum", wrongSum, 5, 0.7, api.ErrLimit},
		{"the ratio, and no checksum", good[:9], 5, 0.7, api.ErrLimit},
		{"the ratio, and something behind", good + "\x00", 5, 0.7, api.ErrLimit},
		{"a wrong checksum", wrongSum, 5, nan, api.ErrForm},
		{"no checksum", good[:9], 5, nan, api.ErrForm},
		{"half a checksum", good[:11], 5, nan, api.ErrForm},
		{"most of a checksum", good[:12], 5, nan, api.ErrForm},
		{"the checksum the other way round", good[:9] + "\x15\x02\x2c\x06", 5, nan, api.ErrForm},
		{"the checksum of nothing", good[:9] + "\x00\x00\x00\x01", 5, nan, api.ErrForm},
		{"something behind", good + "\x00", 5, nan, api.ErrForm},
		{"something ahead of the checksum", good[:9] + "\x00" + good[9:], 5, nan, api.ErrForm},
		{"a second stream", good + good, 10, nan, api.ErrForm},
	} {
		out, used, code := expands(t, []byte(x.b), x.most, x.ratio)
		if code != x.code || len(out) != 0 || used != 0 {
			t.Errorf("18.2: %s: %x, %d, %d, not %d", x.what, out, used, code, x.code)
		}
	}
}

// TestChanged has streams of which one bit was changed, or the end cut off.
func TestChanged(t *testing.T) {
	text := []byte("a text of which a bit is changed, a text of which a bit is changed")
	for head := range allHeads {
		for _, e := range []float64{0, 6, 9} {
			b := append(head[:], deflate.All(text, e, false)...)
			b = append(b, sumOf(text)...)
			if out, used, code := expands(t, b, 1000, nan); !bytes.Equal(out, text) || used != len(b)-6 || code != api.OK {
				t.Fatalf("18.2: All(%x) is %q, %d, %d", b, out, used, code)
			}
			for i := range b {
				for bit := range 8 {
					wrong := bytes.Clone(b)
					wrong[i] ^= 1 << bit
					out, _, code := expands(t, wrong, 1000, nan)
					if code == api.OK && !bytes.Equal(out, text) || code == api.OK && i >= len(b)-4 {
						t.Fatalf("W2: All(%x), of which the byte %d was changed, is %q, %d", wrong, i, out, code)
					}
				}
				if _, _, code := expands(t, b[:i], 1000, nan); code != api.ErrForm {
					t.Fatalf("18.2: All of %d bytes of %x is %d", i, b, code)
				}
			}
		}
	}
}

// TestBroken has random streams, most of them broken.
func TestBroken(t *testing.T) {
	r := source(4)
	whole := 0
	for range 20000 {
		data := mixed(r, r.IntN(300))
		b := slices.Concat([]byte(usual), deflate.All(data, efforts[r.IntN(len(efforts))], false), []byte(sumOf(data)))
		for range r.IntN(3) {
			b[r.IntN(len(b))] ^= 1 << r.IntN(8)
		}
		if r.IntN(8) == 0 {
			b = b[:r.IntN(len(b))]
		}
		if r.IntN(8) == 0 {
			b = append(b, byte(r.IntN(256)))
		}
		ratio := nan
		if r.IntN(2) == 0 {
			ratio = r.Float64() * 3
		}
		if _, _, code := expands(t, b, r.IntN(500), ratio); code == api.OK {
			whole++
		}
	}
	if whole < 1000 {
		t.Errorf("only %d streams are well formed", whole)
	}
}

// TestFarBack has matches that reach as far back as the window of their stream
// allows, or one byte farther.
func TestFarBack(t *testing.T) {
	w := func(ahead, symbol, extra, v int) []byte {
		w := bits.NewWriter()
		for ahead > 0 {
			n := min(ahead, 65535)
			w.Put(0, 3)
			w.Raw([]byte{byte(n), byte(n >> 8), byte(^n), byte(^n >> 8)})
			w.Raw(make([]byte, n))
			ahead -= n
		}
		w.Put(3, 3)
		w.Code(1, 7) // three bytes
		w.Code(uint32(symbol), 5)
		w.Put(uint32(v), extra)
		w.Code(0, 7)
		return w.Bytes()
	}
	for head, size := range allHeads {
		for _, ahead := range []int{size, size + 1, 70000} {
			data := make([]byte, ahead+3)
			// The symbols 15, 17, 19 .. reach to 256, 512, 1024 .. at most, the next ones from there on.
			last := 15 + 2*int(head[0]>>4)
			extra := last/2 - 1
			streams := []struct {
				b    []byte
				code api.Errno
			}{{w(ahead, last, extra, 1<<extra-1), api.OK}, {w(ahead, last+1, extra+1, 0), api.ErrForm}}
			if last == 29 {
				streams = streams[:1] // no symbol reaches farther than the widest window
			}
			for _, x := range streams {
				b := slices.Concat(head[:], x.b, []byte(sumOf(data)))
				if out, _, code := expands(t, b, maxBytes, nan); code != x.code || code == api.OK && !bytes.Equal(out, data) {
					t.Errorf("18.2: a match as far back as a window of %d, behind %d bytes, is %d bytes, %d, not %d", size, ahead, len(out), code, x.code)
				}
			}
		}
	}
}

// TestBomb has few bytes that expand to a gigabyte.
func TestBomb(t *testing.T) {
	w := bits.NewWriter()
	w.Put(3, 3)
	w.Code(0x30, 8) // a byte 0
	for range maxBytes / 258 {
		w.Code(0xC5, 8) // 258 bytes
		w.Code(0, 5)    // that stand one ahead
	}
	w.Code(0, 7)
	b := zlib.Wrap(w.Bytes(), 0)
	var before, after runtime.MemStats
	runtime.ReadMemStats(&before)
	out, used, code := zlib.All(b, 1<<20, nan)
	runtime.ReadMemStats(&after)
	if len(out) != 0 || used != 0 || code != api.ErrLimit {
		t.Errorf("W2: %d bytes that expand to a gigabyte are %d bytes, %d, %d", len(b), len(out), used, code)
	}
	if n := after.TotalAlloc - before.TotalAlloc; n > 1<<26 {
		t.Errorf("W2: %d bytes that may expand to a megabyte take %d bytes", len(b), n)
	}
}

// TestOthers reads what others write, and lets them read what is written here.
func TestOthers(t *testing.T) {
	r := source(5)
	for i := range 200 {
		data := mixed(r, r.IntN(1<<r.IntN(18)))
		var file bytes.Buffer
		w, _ := gozlib.NewWriterLevel(&file, i%12-2)
		w.Write(data)
		w.Close()
		out, used, code := expands(t, file.Bytes(), len(data), nan)
		if !bytes.Equal(out, data) || used != file.Len()-6 || code != api.OK {
			t.Fatalf("18.2: what others write, of %d bytes, is %d bytes, %d, %d", len(data), len(out), used, code)
		}
		b := zlib.Wrap(deflate.All(data, efforts[i%len(efforts)], false), adler32.Checksum(data))
		z, err := gozlib.NewReader(bytes.NewReader(b))
		if err != nil {
			t.Fatalf("18.1: others don't read the header %x: %v", b[:2], err)
		}
		if back, err := io.ReadAll(z); !bytes.Equal(back, data) || err != nil {
			t.Fatalf("18.1: others don't read %d bytes: %v", len(data), err)
		}
	}
	var file bytes.Buffer
	with, _ := gozlib.NewWriterLevelDict(&file, 6, []byte("a dictionary"))
	with.Write([]byte("what stands in a dictionary"))
	with.Close()
	if _, _, code := expands(t, file.Bytes(), maxBytes, nan); code != api.ErrForm {
		t.Errorf("18.2: All of a stream with a dictionary is %d", code)
	}
}

// TestSame asks for the same several times, at the same time, and changes what
// it gets and what it gave.
func TestSame(t *testing.T) {
	data := mixed(source(6), 70000)
	b := zlib.Wrap(deflate.All(data, 6, false), adler32.Checksum(data))
	var workers sync.WaitGroup
	for range 6 {
		workers.Go(func() {
			out, used, code := zlib.All(b, maxBytes, nan)
			again, _, _ := zlib.All(b, maxBytes, nan)
			if !bytes.Equal(out, data) || used != len(b)-6 || code != api.OK {
				t.Errorf("18.2: equal arguments give %d bytes, %d, %d", len(out), used, code)
			}
			clear(out[:cap(out)])
			if !bytes.Equal(again, data) {
				t.Errorf("18.2: a change of a result changes another one")
			}
		})
	}
	workers.Wait()
	for _, packed := range []string{"\x01\x05\x00\xfa\xffhello", hello} {
		b := stream(packed, "hello")
		out, _, _ := zlib.All(b, maxBytes, nan)
		clear(b)
		if string(out) != "hello" {
			t.Errorf("18.2: a change of the bytes changes what was read")
		}
	}
	room := append(make([]byte, 0, 100), hello...)
	whole := zlib.Wrap(room, 0xffffffff)
	if string(room) != hello || !bytes.Equal(room[7:20], make([]byte, 13)) {
		t.Errorf("18.1: Wrap changes the compressed bytes, or what stands behind them")
	}
	before := bytes.Clone(whole)
	clear(room[:cap(room)])
	if !bytes.Equal(whole, before) {
		t.Errorf("18.1: a change of the compressed bytes changes the stream")
	}
	clear(whole[:cap(whole)])
	if b := zlib.Wrap(nil, 0xffffffff); string(b) != "\x78\x9c\xff\xff\xff\xff" {
		t.Errorf("18.1: a change of a result changes the next one: %s", told(b))
	}
}
