package gzip_test

import (
	"bytes"
	gogzip "compress/gzip"
	"fmt"
	"hash/crc32"
	"io"
	"math"
	"math/rand/v2"
	"runtime"
	"slices"
	"strings"
	"sync"
	"testing"
	"time"

	"stevedore/api"
	"stevedore/bits"
	"stevedore/deflate"
	"stevedore/gzip"
)

// hello is "hello" in seven compressed bytes, letter is "a" in three, none is
// nothing in two.
const (
	hello  = "\xcb\x48\xcd\xc9\xc9\x07\x00"
	letter = "\x4b\x04\x00"
	none   = "\x03\x00"
)

// extremes are numbers that are far beyond any bound.
var extremes = []int{
	math.MinInt, math.MinInt + 1, -1 << 40, -1 << 32, 1 - 1<<32, math.MinInt32, -maxBytes, -2, -1,
	maxBytes + 1, math.MaxInt32, 1 << 31, 1<<32 - 1, 1 << 32, 1<<32 + 1, 1 << 40, math.MaxInt - 1, math.MaxInt,
}

// efforts are of all levels, and none.
var efforts = []float64{0, 1, 2, 3, 4, 5, 6, 7, 8, 9, nan}

// told returns the beginning of what a value is.
func told(v any) string { return fmt.Sprintf("%.300s", fmt.Sprintf("%#v", v)) }

// reads asks whether Read answers b's header as the model does.
func reads(t *testing.T, b []byte) (gzip.Head, int, api.Errno) {
	t.Helper()
	before := bytes.Clone(b)
	h, n, code := gzip.Read(b)
	want, wantN, wantCode := readModel(b)
	if !sameHead(h, want) || n != wantN || code != wantCode {
		t.Fatalf("17.1: Read(%.60x), %d bytes, is %s, %d, %d, not %s, %d, %d", b, len(b), told(h), n, code, told(want), wantN, wantCode)
	}
	if !bytes.Equal(b, before) {
		t.Fatalf("17.1: Read(%.60x) changes its bytes", before)
	}
	return h, n, code
}

// expands asks whether All answers as the model does.
func expands(t *testing.T, b []byte, most int, ratio float64) ([]gzip.Part, []byte, api.Errno) {
	t.Helper()
	before := bytes.Clone(b)
	parts, out, code := gzip.All(b, most, ratio)
	want, wantOut, wantCode := allModel(b, most, ratio)
	if !sameParts(parts, want) || !bytes.Equal(out, wantOut) || code != wantCode {
		t.Fatalf("17.3: All(%.60x, %d, %v), %d bytes, is %s, %.40x (%d bytes), %d, not %s, %.40x (%d bytes), %d",
			b, most, ratio, len(b), told(parts), out, len(out), code, told(want), wantOut, len(wantOut), wantCode)
	}
	if !bytes.Equal(b, before) {
		t.Fatalf("17.3: All(%.60x) changes its bytes", before)
	}
	return parts, out, code
}

// put returns the bytes of a header that may be put.
func put(t *testing.T, h gzip.Head) []byte {
	t.Helper()
	b, code := gzip.Put(h)
	if code != api.OK {
		t.Fatalf("17.2: Put(%s) is %d", told(h), code)
	}
	return b
}

// wrapped returns a member with some bytes.
func wrapped(t *testing.T, h gzip.Head, packed, data []byte) []byte {
	t.Helper()
	b, code := gzip.Wrap(h, packed, crc32.ChecksumIEEE(data), len(data))
	if code != api.OK {
		t.Fatalf("17.2: Wrap(%s) is %d", told(h), code)
	}
	return b
}

// member returns a member of a text that is packed so.
func member(t *testing.T, packed, text string) []byte {
	t.Helper()
	return wrapped(t, gzip.Head{Time: nan}, []byte(packed), []byte(text))
}

// mixed returns some bytes that are partly easy to compress.
func mixed(r *rand.Rand, n int) []byte {
	b := make([]byte, n)
	for i := range b {
		b[i] = "abcdefgh"[r.IntN(8)]
		if i > 20 && r.IntN(20) > 0 {
			b[i] = b[i-1-i%19]
		}
		if r.IntN(50) == 0 {
			b[i] = byte(r.IntN(256))
		}
	}
	return b
}

func TestExamples(t *testing.T) {
	for _, x := range []struct {
		b    string
		n    int
		code api.Errno
	}{
		{"\x1f\x8b\x08\x00\x00\x00\x00\x00\x00\x00", 10, api.OK}, {"\x1f\x8b\x08\x00abcdefghij", 10, api.OK},
		{"\x1f", 0, api.ErrShort}, {"\x1e", 0, api.ErrForm},
	} {
		if _, n, code := gzip.Read([]byte(x.b)); n != x.n || code != x.code {
			t.Errorf("17.1: Read(%x) is %d, %d", x.b, n, code)
		}
	}
	if b := put(t, gzip.Head{Time: nan}); string(b) != "\x1f\x8b\x08\x00\x00\x00\x00\x00\x00\xff" {
		t.Errorf("17.2: Put of a Head with no time is %x", b)
	}
	if b, code := gzip.Put(gzip.Head{Name: "a"}); len(b) != 0 || code != api.ErrArg {
		t.Errorf("17.2: Put of a Head with a Name that is not Named is %x, %d", b, code)
	}
	if b, code := gzip.Wrap(gzip.Head{}, nil, 0, -1); len(b) != 0 || code != api.ErrRange {
		t.Errorf("17.2: Wrap with size -1 is %x, %d", b, code)
	}
	b := member(t, hello, "hello")
	for _, x := range []struct {
		most  int
		ratio float64
		code  api.Errno
	}{{4, nan, api.ErrLimit}, {5, 5.0 / 7, api.OK}, {5, 0.7, api.ErrLimit}} {
		parts, out, code := expands(t, b, x.most, x.ratio)
		if code != x.code {
			t.Errorf("17.3: All of hello, most %d, ratio %v, is %d", x.most, x.ratio, code)
		}
		if code == api.OK && (string(out) != "hello" || len(parts) != 1) {
			t.Errorf("17.3: All of hello is %q, %s", out, told(parts))
		}
	}
}

// TestReadOptions has headers of all flags, cut off everywhere, with and without
// something behind them.
func TestReadOptions(t *testing.T) {
	for flags := range byte(32) {
		for _, x := range [][3]string{{"", "", ""}, {"a", "b", "c"}, {"\x00\x00\x01", "name.txt", "a comment"}, {strings.Repeat("xy", 150), "\xff\xe4", strings.Repeat("c", 300)}} {
			for _, time := range []uint32{0, 1, 0x04030201, 1<<31 - 1, 1 << 31, 1<<32 - 1} {
				b := header(flags, time, x[0], x[1], x[2])
				want := gzip.Head{Named: flags&flagName != 0, Time: float64(time)}
				if want.Named {
					want.Name = x[1]
				}
				if time == 0 {
					want.Time = nan
				}
				for _, more := range []string{"", "\x00", "\x1f\x8b\x08\xe0", "more"} {
					h, n, code := reads(t, append(bytes.Clone(b), more...))
					if !sameHead(h, want) || n != len(b) || code != api.OK {
						t.Fatalf("17.1: Read(%x) is %s, %d, %d", b, told(h), n, code)
					}
				}
				for n := range b {
					if _, _, code := reads(t, b[:n]); code != api.ErrShort {
						t.Fatalf("17.1: Read of %d bytes of %x is %d", n, b, code)
					}
				}
			}
		}
	}
}

// TestReadNil is of no bytes at all.
func TestReadNil(t *testing.T) {
	for _, b := range [][]byte{nil, {}} {
		if _, _, code := reads(t, b); code != api.ErrShort {
			t.Errorf("17.1: Read of no bytes is %d", code)
		}
		if _, _, code := expands(t, b, 1, nan); code != api.ErrForm {
			t.Errorf("17.3: All of no bytes is %d", code)
		}
	}
}

// TestReadFirst has all bytes at the first four places, with and without others
// behind them.
func TestReadFirst(t *testing.T) {
	for at, first := range []string{"", "\x1f", "\x1f\x8b", "\x1f\x8b\x08"} {
		for c := range 256 {
			b := append([]byte(first), byte(c))
			_, _, code := reads(t, b)
			want := api.ErrForm
			if at < 3 && byte(c) == "\x1f\x8b\x08"[at] || at == 3 && c < 32 {
				want = api.ErrShort
			}
			if code != want {
				t.Errorf("17.1: Read(%x) is %d, not %d", b, code, want)
			}
			reads(t, append(b, make([]byte, 30)...))
			reads(t, append(b, header(31, 7, "extra", "name", "comment")[at+1:]...))
		}
	}
}

// TestReadSum has headers with a wrong checksum, or a wrong byte ahead of it.
func TestReadSum(t *testing.T) {
	for flags := range byte(32) {
		b := header(flags|flagSum, 99, "extra", "name", "comment")
		for i := range b {
			for bit := range 8 {
				wrong := bytes.Clone(b)
				wrong[i] ^= 1 << bit
				reads(t, wrong)
				reads(t, append(wrong, 0, 0, 0))
				if _, _, code := gzip.Read(wrong); i >= len(b)-2 && code != api.ErrForm {
					t.Fatalf("17.1: Read(%x) is %d", wrong, code)
				}
			}
		}
		if _, _, code := reads(t, b[:len(b)-1]); code != api.ErrShort {
			t.Fatalf("17.1: Read(%x) without its last byte is %d", b, code)
		}
		// The two bytes in the wrong order, or the upper half of the checksum.
		slices.Reverse(b[len(b)-2:])
		reads(t, b)
		copy(b[len(b)-2:], little(int(crc32.ChecksumIEEE(b[:len(b)-2])>>16), 2))
		reads(t, b)
	}
}

// TestReadText has names and comments about as long as they may be.
func TestReadText(t *testing.T) {
	for _, flag := range []byte{flagName, flagComment} {
		for _, x := range []struct {
			n    int
			end  string
			code api.Errno
		}{
			{longest - 1, "", api.ErrShort}, {longest - 1, "\x00", api.OK}, {longest - 1, "\x00\x00", api.OK},
			{longest, "", api.ErrShort}, {longest, "\x00", api.OK}, {longest, "\x00z", api.OK},
			{longest + 1, "", api.ErrForm}, {longest + 1, "\x00", api.ErrForm}, {longest + 1, "\x00\x00", api.ErrForm},
			{longest + 2, "", api.ErrForm}, {longest + 2, "\x00", api.ErrForm}, {200000, "", api.ErrForm}, {200000, "\x00", api.ErrForm},
		} {
			text := strings.Repeat("n", x.n)
			b := append(header(flag, 5, "", "", "")[:10], text+x.end...)
			h, n, code := reads(t, b)
			if code != x.code {
				t.Fatalf("17.1: Read of %d bytes and %x, flags %d, is %d, not %d", x.n, x.end, flag, code, x.code)
			}
			if code == api.OK && (n != 10+x.n+1 || flag == flagName && h.Name != text) {
				t.Fatalf("17.1: Read of %d bytes, flags %d, is %d bytes with a name of %d", x.n, flag, n, len(h.Name))
			}
		}
	}
	full := strings.Repeat("\xff", longest)
	b := header(31, 5, full, full, full)
	if h, n, code := reads(t, append(b, 1)); h.Name != full || n != len(b) || code != api.OK {
		t.Fatalf("17.1: Read of the longest header is %d, %d", n, code)
	}
	// An extra field may have bytes 0, and a name too long comes ahead of what is missing behind it.
	reads(t, header(flagExtra|flagName, 5, strings.Repeat("\x00", longest), full+"n", ""))
	reads(t, header(flagName|flagComment, 5, "", full, full+"n"))
	reads(t, header(flagName|flagSum, 5, "", full+"n", ""))
}

// TestReadExtra has extra fields of all lengths, whole and cut off.
func TestReadExtra(t *testing.T) {
	for _, n := range []int{0, 1, 2, 254, 255, 256, 257, 1000, 32767, 32768, longest - 1, longest} {
		b := header(flagExtra, 1, strings.Repeat("\x00", n), "", "")
		if _, got, code := reads(t, append(bytes.Clone(b), 1, 2, 3)); got != 12+n || code != api.OK {
			t.Errorf("17.1: Read of an extra field of %d bytes is %d, %d", n, got, code)
		}
		for _, less := range []int{1, 2, n} {
			reads(t, b[:max(10, len(b)-less)])
		}
	}
}

// TestReadMany has random headers, most of them broken.
func TestReadMany(t *testing.T) {
	r := source(1)
	whole := 0
	for range 200000 {
		text := func() string {
			b := make([]byte, r.IntN(6))
			for i := range b {
				b[i] = byte(1 + r.IntN(255))
			}
			return string(b)
		}
		b := header(byte(r.IntN(32)), r.Uint32(), text(), text(), text())
		for range r.IntN(3) {
			b[r.IntN(len(b))] = byte(r.IntN(256))
		}
		if r.IntN(4) == 0 {
			b = b[:r.IntN(len(b))]
		}
		if r.IntN(4) == 0 {
			b = append(b, text()...)
		}
		if _, _, code := reads(t, b); code == api.OK {
			whole++
		}
	}
	if whole < 20000 {
		t.Errorf("only %d headers are well formed", whole)
	}
}

func TestPut(t *testing.T) {
	full := strings.Repeat("n", longest)
	for _, x := range []struct {
		named bool
		name  string
		code  api.Errno
	}{
		{false, "", api.OK}, {true, "", api.OK}, {true, "a", api.OK}, {true, "a/b \xff\xfe/..", api.OK}, {true, "ä", api.OK}, {true, full, api.OK},
		{false, "a", api.ErrArg}, {false, "\x00", api.ErrArg}, {false, full + "n", api.ErrArg},
		{true, "\x00", api.ErrArg}, {true, "\x00a", api.ErrArg}, {true, "a\x00", api.ErrArg}, {true, "a\x00b", api.ErrArg},
		{true, full + "n", api.ErrArg}, {true, full + full, api.ErrArg}, {true, full[1:] + "\x00", api.ErrArg}, {true, full + "\x00", api.ErrArg},
	} {
		for _, y := range []struct {
			time float64
			unix int
		}{
			{0, 0}, {minusZero, 0}, {nan, 0}, {-nan, 0}, {-1, 0}, {-inf, 0}, {-1e300, 0}, {0.999, 0}, {-0.5, 0}, {math.SmallestNonzeroFloat64, 0},
			{1, 1}, {1.99, 1}, {256, 256}, {0x04030201, 0x04030201}, {1 << 31, 1 << 31}, {1<<32 - 2, 1<<32 - 2}, {1<<32 - 1.5, 1<<32 - 2},
			{1<<32 - 1, 1<<32 - 1}, {1<<32 - 0.5, 1<<32 - 1}, {1 << 32, 1<<32 - 1}, {1 << 40, 1<<32 - 1}, {1e300, 1<<32 - 1}, {inf, 1<<32 - 1},
		} {
			h := gzip.Head{Named: x.named, Name: x.name, Time: y.time}
			b, code := gzip.Put(h)
			if code != x.code {
				t.Fatalf("17.2: Put(%s) is %d, not %d", told(h), code, x.code)
			}
			if code != api.OK {
				if len(b) > 0 {
					t.Fatalf("17.2: Put(%s) is %x beside %d", told(h), b, code)
				}
				continue
			}
			want := append([]byte{0x1f, 0x8b, 8, 0}, little(y.unix, 4)...)
			want = append(want, 0, 255)
			if x.named {
				want[3] = 8
				want = append(append(want, x.name...), 0)
			}
			if !bytes.Equal(b, want) {
				t.Fatalf("17.2: Put(%s) is %.60x, not %.60x", told(h), b, want)
			}
			h.Time = float64(y.unix)
			if y.unix == 0 {
				h.Time = nan
			}
			if got, n, code := reads(t, b); !sameHead(got, h) || n != len(b) || code != api.OK {
				t.Fatalf("17.4: Read of Put(%s) is %s, %d, %d", told(h), told(got), n, code)
			}
		}
	}
}

func TestWrap(t *testing.T) {
	for _, h := range []gzip.Head{{}, {Time: nan}, {Named: true, Time: 77}, {Named: true, Name: "a name", Time: inf}} {
		for _, packed := range []string{"", "\x00", none, hello, strings.Repeat("packed", 20000)} {
			for _, size := range []int{0, 1, 5, 0x04030201, 1 << 31, 1<<32 - 1, 1 << 32, 1<<32 + 5, 1<<40 + 0x01020304, math.MaxInt} {
				for _, sum := range []uint32{0, 1, 0x04030201, 1 << 31, 1<<32 - 1} {
					b, code := gzip.Wrap(h, []byte(packed), sum, size)
					want := slices.Concat(put(t, h), []byte(packed), little(int(sum), 4), little(size, 4))
					if !bytes.Equal(b, want) || code != api.OK {
						t.Fatalf("17.2: Wrap(%s, %.20x, %x, %x) is %.80x, %d, not %.80x", told(h), packed, sum, size, b, code, want)
					}
				}
			}
		}
	}
	for _, size := range []int{-1, -2, -1 << 32, 5 - 1<<32, math.MinInt} {
		for _, h := range []gzip.Head{{}, {Named: true, Name: "a"}} {
			if b, code := gzip.Wrap(h, []byte(hello), 0, size); len(b) != 0 || code != api.ErrRange {
				t.Errorf("17.2: Wrap with size %d is %x, %d", size, b, code)
			}
		}
	}
	for _, size := range []int{-1, math.MinInt, 0, 5} {
		for _, h := range []gzip.Head{{Name: "a"}, {Named: true, Name: "a\x00"}, {Named: true, Name: strings.Repeat("n", longest+1)}} {
			if b, code := gzip.Wrap(h, []byte(hello), 0, size); len(b) != 0 || code != api.ErrArg {
				t.Errorf("17.2: Wrap of a Head that can't be put, size %d, is %x, %d", size, b, code)
			}
		}
	}
}

// TestAllOne has one member each, packed in many ways.
func TestAllOne(t *testing.T) {
	r := source(2)
	for _, n := range []int{0, 1, 2, 100, 255, 256, 257, 5000, 65535, 65536, 200000} {
		data := mixed(r, n)
		for _, e := range efforts {
			packed := deflate.All(data, e, false)
			h := gzip.Head{Named: n%2 == 0, Time: float64(n + 1)}
			if h.Named {
				h.Name = "name"
			}
			b := wrapped(t, h, packed, data)
			parts, out, code := expands(t, b, n, nan)
			want := []gzip.Part{{Head: h, From: len(put(t, h)), Used: len(packed), Sum: crc32.ChecksumIEEE(data), Size: n}}
			if !sameParts(parts, want) || !bytes.Equal(out, data) || code != api.OK {
				t.Fatalf("17.3: All of a member of %d bytes, effort %v, is %s, %d bytes, %d", n, e, told(parts), len(out), code)
			}
			if n > 0 {
				if _, _, code := expands(t, b, n-1, nan); code != api.ErrLimit {
					t.Fatalf("17.3: All of a member of %d bytes, effort %v, with room for one less is %d", n, e, code)
				}
			}
		}
	}
}

// TestAllSeveral has several members, one after another.
func TestAllSeveral(t *testing.T) {
	r := source(3)
	for range 300 {
		var b, all []byte
		var want []gzip.Part
		for range 1 + r.IntN(12) {
			data := mixed(r, r.IntN(1<<r.IntN(14)))
			packed := deflate.All(data, efforts[r.IntN(len(efforts))], false)
			h := gzip.Head{Named: r.IntN(2) == 0, Time: float64(1 + r.Uint32()/2)}
			if h.Named {
				h.Name = strings.Repeat("n", r.IntN(300))
			}
			from := len(b) + len(put(t, h))
			b = append(b, wrapped(t, h, packed, data)...)
			want = append(want, gzip.Part{Head: h, From: from, Used: len(packed), Sum: crc32.ChecksumIEEE(data), Size: len(data)})
			all = append(all, data...)
		}
		parts, out, code := expands(t, b, len(all), nan)
		if !sameParts(parts, want) || !bytes.Equal(out, all) || code != api.OK {
			t.Fatalf("17.4: All of %d members is %s, %d bytes, %d", len(want), told(parts), len(out), code)
		}
		if h, n, code := reads(t, b); !sameHead(h, want[0].Head) || n != want[0].From || code != api.OK {
			t.Fatalf("17.4: Read ahead of %d members is %s, %d, %d", len(want), told(h), n, code)
		}
		if len(all) > 0 {
			if _, _, code := expands(t, b, len(all)-1, nan); code != api.ErrLimit {
				t.Fatalf("17.3: All of %d members with room for one byte less is %d", len(want), code)
			}
		}
		expands(t, b, r.IntN(len(all)+1), r.Float64()*4)
		expands(t, append(b, 0), maxBytes, nan)
		expands(t, b[:r.IntN(len(b))], maxBytes, nan)
	}
}

func TestArguments(t *testing.T) {
	b := member(t, hello, "hello")
	for _, most := range extremes {
		for _, b := range [][]byte{nil, b, b[:3], []byte("wrong")} {
			if parts, out, code := gzip.All(b, most, nan); len(parts) != 0 || len(out) != 0 || code != api.ErrArg {
				t.Errorf("17.3: All with most %d is %s, %x, %d", most, told(parts), out, code)
			}
		}
	}
	for most := range 10 {
		expands(t, b, most, nan)
	}
	for _, most := range []int{maxBytes - 1, maxBytes} {
		if _, out, code := expands(t, b, most, nan); string(out) != "hello" || code != api.OK {
			t.Errorf("17.3: All with most %d is %q, %d", most, out, code)
		}
	}
	if _, _, code := expands(t, member(t, none, ""), 0, 0); code != api.OK {
		t.Errorf("17.3: All of no bytes, with room for none, is %d", code)
	}
}

// TestRatio has ratios about those that there are, and such as are no numbers.
func TestRatio(t *testing.T) {
	below := func(x float64) float64 { return math.Nextafter(x, -inf) }
	for _, x := range []struct {
		packed, text string
		ratio        float64
		code         api.Errno
	}{
		{hello, "hello", 5.0 / 7, api.OK}, {hello, "hello", 0.7, api.ErrLimit}, {hello, "hello", 0.714, api.ErrLimit}, {hello, "hello", 0.715, api.OK},
		{hello, "hello", nan, api.OK}, {hello, "hello", inf, api.OK}, {hello, "hello", 1e308, api.OK}, {hello, "hello", math.MaxFloat64, api.OK},
		{hello, "hello", 0, api.ErrLimit}, {hello, "hello", minusZero, api.ErrLimit}, {hello, "hello", -1, api.ErrLimit}, {hello, "hello", -inf, api.ErrLimit},
		{hello, "hello", math.SmallestNonzeroFloat64, api.ErrLimit}, {hello, "hello", -math.MaxFloat64, api.ErrLimit},
		// Three thirds are 1 when they are rounded, and less when they aren't.
		{letter, "a", 1.0 / 3, api.OK}, {letter, "a", below(below(1.0 / 3)), api.ErrLimit},
		{none, "", 0, api.OK}, {none, "", minusZero, api.OK}, {none, "", nan, api.OK}, {none, "", inf, api.OK}, {none, "", 1, api.OK},
		{none, "", -math.SmallestNonzeroFloat64, api.ErrLimit}, {none, "", -1, api.ErrLimit}, {none, "", -inf, api.ErrLimit},
	} {
		b := member(t, x.packed, x.text)
		if _, _, code := expands(t, b, 100, x.ratio); code != x.code {
			t.Errorf("17.3: All of %q with the ratio %v is %d, not %d", x.text, x.ratio, code, x.code)
		}
		// Each member has a ratio of its own: what follows or stands ahead doesn't count.
		flat := member(t, "\x01\x00\x00\xff\xff", "")
		for _, b := range [][]byte{slices.Concat(flat, b), slices.Concat(b, flat), slices.Concat(flat, flat, b, flat)} {
			if _, _, code := expands(t, b, 100, x.ratio); code != x.code {
				t.Errorf("17.3: All of %q among others with the ratio %v is %d, not %d", x.text, x.ratio, code, x.code)
			}
		}
	}
	data := make([]byte, 4400)
	packed := deflate.All(data, 9, false)
	b := wrapped(t, gzip.Head{}, packed, data)
	exact := 4400 / float64(len(packed))
	for _, ratio := range []float64{exact, below(exact), below(below(exact)), exact + 1, exact - 1, 1, 4400} {
		expands(t, b, 4400, ratio)
		expands(t, slices.Concat(b, b), 8800, ratio)
	}
}

// TestOrder has two errors each; the one that is named first is answered.
func TestOrder(t *testing.T) {
	good := string(member(t, hello, "hello"))
	head := good[:10]
	wrongTail := good[:len(good)-1] + "\x01"
	wrongSum := good[:len(good)-8] + "\x00" + good[len(good)-7:]
	for _, x := range []struct {
		what, b string
		most    int
		ratio   float64
		code    api.Errno
	}{
		{"a wrong header, and too many bytes", "\x1f\x8b\x09" + good[3:], 4, 0, api.ErrForm},
		{"half a header", good[:9], 4, 0, api.ErrForm},
		{"half a header behind a member", good + good[:9], 9, nan, api.ErrForm},
		{"a header alone", head, 4, 0, api.ErrForm},
		{"too many bytes, and half a stream", good[:len(good)-9], 4, nan, api.ErrLimit},
		{"half a stream", good[:len(good)-9], 5, nan, api.ErrForm},
		{"half a stream, and the ratio", good[:len(good)-9], 5, 0, api.ErrForm},
		{"a wrong stream, and the ratio", head + "\x07" + good[10:], 5, 0, api.ErrForm},
		{"too many bytes, and the tail", wrongTail, 4, nan, api.ErrLimit},
		{"the ratio, and a wrong size", wrongTail, 5, 0.7, api.ErrLimit},
		{"the ratio, and a wrong checksum", wrongSum, 5, 0.7, api.ErrLimit},
		{"the ratio, and no tail", good[:len(good)-8], 5, 0.7, api.ErrLimit},
		{"a wrong size", wrongTail, 5, nan, api.ErrForm},
		{"a wrong checksum", wrongSum, 5, nan, api.ErrForm},
		{"no tail", good[:len(good)-8], 5, nan, api.ErrForm},
		{"half a tail", good[:len(good)-1], 5, nan, api.ErrForm},
		{"the tail, and a second member that is wrong", wrongTail + "\x1e", 5, nan, api.ErrForm},
		{"the ratio, and a second member that is wrong", good + "\x1e", 5, 0.7, api.ErrLimit},
		{"a second member that is wrong, and too long", good + "\x1e" + good[1:], 9, nan, api.ErrForm},
		{"a second member that is too long", good + good, 9, nan, api.ErrLimit},
		{"a second member that has no room", good + good, 5, nan, api.ErrLimit},
		{"a second member that is too long, and a third one that is wrong", good + good + "\x1e", 9, nan, api.ErrLimit},
		{"a second member with a wrong tail, and a third one that is too long", good + wrongTail + good, 10, nan, api.ErrForm},
		{"something behind a member", good + "\x00", 5, nan, api.ErrForm},
		{"the beginning of a member behind a member", good + "\x1f", 5, nan, api.ErrForm},
	} {
		parts, out, code := expands(t, []byte(x.b), x.most, x.ratio)
		if code != x.code || len(parts) != 0 || len(out) != 0 {
			t.Errorf("17.3: %s: %s, %x, %d, not %d", x.what, told(parts), out, code, x.code)
		}
	}
}

// TestChanged has members of which one bit was changed, or the end cut off.
func TestChanged(t *testing.T) {
	text := []byte("a text of which a bit is changed, a text of which a bit is changed")
	for _, e := range []float64{0, 9} {
		for flags := range byte(32) {
			head := header(flags, 3, "extra", "name", "comment")
			packed := deflate.All(text, e, false)
			tail := slices.Concat(little(int(crc32.ChecksumIEEE(text)), 4), little(len(text), 4))
			b := slices.Concat(head, packed, tail)
			if _, out, code := expands(t, b, 1000, nan); !bytes.Equal(out, text) || code != api.OK {
				t.Fatalf("17.3: All(%x) is %q, %d", b, out, code)
			}
			for i := range b {
				for bit := range 8 {
					wrong := bytes.Clone(b)
					wrong[i] ^= 1 << bit
					_, out, code := expands(t, wrong, 1000, nan)
					if code == api.OK && !bytes.Equal(out, text) || code == api.OK && i >= len(b)-8 {
						t.Fatalf("17.3: All(%x), of which the byte %d was changed, is %q, %d", wrong, i, out, code)
					}
				}
				if _, _, code := expands(t, b[:i], 1000, nan); code != api.ErrForm {
					t.Fatalf("17.3: All of %d bytes of %x is %d", i, b, code)
				}
			}
		}
	}
}

// TestBroken has random members, most of them broken.
func TestBroken(t *testing.T) {
	r := source(4)
	for range 20000 {
		var b []byte
		for range 1 + r.IntN(3) {
			data := mixed(r, r.IntN(200))
			packed := deflate.All(data, efforts[r.IntN(len(efforts))], false)
			b = append(b, header(byte(r.IntN(32)), r.Uint32(), "x", "y", "z")...)
			b = append(append(b, packed...), little(int(crc32.ChecksumIEEE(data)), 4)...)
			b = append(b, little(len(data), 4)...)
		}
		for range r.IntN(3) {
			b[r.IntN(len(b))] ^= 1 << r.IntN(8)
		}
		ratio := nan
		if r.IntN(2) == 0 {
			ratio = r.Float64() * 3
		}
		expands(t, b, r.IntN(500), ratio)
	}
}

// TestFarBack has matches that reach as far back as they may, or beyond the first
// byte of their member: the bytes of an earlier one are out of reach.
func TestFarBack(t *testing.T) {
	stream := func(ahead, dist int) []byte {
		w := bits.NewWriter()
		for ahead > 0 {
			n := min(ahead, longest)
			w.Put(0, 3)
			w.Raw(slices.Concat(little(n, 2), little(^n, 2), make([]byte, n)))
			ahead -= n
		}
		w.Put(3, 3)
		w.Code(1, 7) // three bytes
		w.Code(29, 5)
		w.Put(uint32(dist-24577), 13)
		w.Code(0, 7)
		return w.Bytes()
	}
	for _, x := range []struct {
		ahead, dist int
		code        api.Errno
	}{{32768, 32768, api.OK}, {32767, 32768, api.ErrForm}, {70000, 32768, api.OK}, {32767, 32767, api.OK}, {24576, 24577, api.ErrForm}} {
		data := make([]byte, x.ahead+3)
		b := wrapped(t, gzip.Head{}, stream(x.ahead, x.dist), data)
		if _, out, code := expands(t, b, maxBytes, nan); code != x.code || code == api.OK && !bytes.Equal(out, data) {
			t.Errorf("17.3: a match at a distance of %d behind %d bytes gives %d bytes, %d", x.dist, x.ahead, len(out), code)
		}
		ahead := wrapped(t, gzip.Head{}, deflate.All(data, 1, false), data)
		if _, _, code := expands(t, slices.Concat(ahead, b), maxBytes, nan); code != x.code {
			t.Errorf("17.3: a match at a distance of %d behind %d bytes and a member gives %d", x.dist, x.ahead, code)
		}
	}
}

// TestBomb has few bytes that expand to a gigabyte.
func TestBomb(t *testing.T) {
	w := bits.NewWriter()
	w.Put(3, 3)
	w.Code(0x30, 8) // a byte 0
	for range maxBytes / 258 {
		w.Code(0xC5, 8) // 258 bytes
		w.Code(0, 5)    // that stand one ahead
	}
	w.Code(0, 7)
	b, code := gzip.Wrap(gzip.Head{}, w.Bytes(), 0, maxBytes/258*258+1)
	if code != api.OK {
		t.Fatal(code)
	}
	for _, b := range [][]byte{b, slices.Concat(member(t, hello, "hello"), b)} {
		var before, after runtime.MemStats
		runtime.ReadMemStats(&before)
		parts, out, code := gzip.All(b, 1<<20, nan)
		runtime.ReadMemStats(&after)
		if len(parts) != 0 || len(out) != 0 || code != api.ErrLimit {
			t.Errorf("W2: %d bytes that expand to a gigabyte are %d parts, %d bytes, %d", len(b), len(parts), len(out), code)
		}
		if n := after.TotalAlloc - before.TotalAlloc; n > 1<<25 {
			t.Errorf("W2: %d bytes that may expand to a megabyte take %d bytes", len(b), n)
		}
	}
}

// TestManyMembers has so many members that no time may be spent on each of them
// for all that follow.
func TestManyMembers(t *testing.T) {
	const many = 100000
	b := bytes.Repeat(member(t, letter, "a"), many)
	begun := time.Now()
	parts, out, code := gzip.All(b, many, 1)
	if took := time.Since(begun); took > time.Minute {
		t.Errorf("17.3: All of %d members takes %v", many, took)
	}
	if len(parts) != many || string(out) != strings.Repeat("a", many) || code != api.OK {
		t.Fatalf("17.3: All of %d members is %d parts, %d bytes, %d", many, len(parts), len(out), code)
	}
	for i, p := range parts {
		if p.From != 21*i+10 || p.Used != 3 || p.Size != 1 {
			t.Fatalf("17.3: the part %d of many is %s", i, told(p))
		}
	}
	if _, _, code := gzip.All(b, many-1, 1); code != api.ErrLimit {
		t.Errorf("17.3: All of %d members with room for one byte less is %d", many, code)
	}
	if _, _, code := gzip.All(b[:len(b)-1], many, 1); code != api.ErrForm {
		t.Errorf("17.3: All of %d members but one byte is %d", many, code)
	}
}

// TestOthers reads what others write, and lets them read what is written here.
func TestOthers(t *testing.T) {
	r := source(5)
	for i := range 200 {
		data := mixed(r, r.IntN(1<<r.IntN(18)))
		var file bytes.Buffer
		w, _ := gogzip.NewWriterLevel(&file, i%12-2)
		if i%3 > 0 {
			w.Name, w.Comment, w.Extra = "name", "comment", []byte("extra")
			w.ModTime = time.Unix(int64(i)+1, 0)
		}
		w.Write(data)
		w.Close()
		parts, out, code := expands(t, file.Bytes(), len(data), nan)
		if len(parts) != 1 || !bytes.Equal(out, data) || code != api.OK {
			t.Fatalf("17.3: what others write, of %d bytes, is %s, %d bytes, %d", len(data), told(parts), len(out), code)
		}
		if h := parts[0].Head; i%3 > 0 && (h != gzip.Head{Named: true, Name: "name", Time: float64(i) + 1}) {
			t.Fatalf("17.1: the header that others write is %s", told(h))
		}
		h := gzip.Head{Named: true, Name: "a name", Time: float64(i) + 1}
		b := wrapped(t, h, deflate.All(data, efforts[i%len(efforts)], false), data)
		z, err := gogzip.NewReader(bytes.NewReader(slices.Concat(b, b)))
		if err != nil || z.Name != "a name" || z.ModTime.Unix() != int64(i)+1 {
			t.Fatalf("17.2: others don't read the header %x: %v", b[:20], err)
		}
		if back, err := io.ReadAll(z); !bytes.Equal(back, append(bytes.Clone(data), data...)) || err != nil {
			t.Fatalf("17.2: others don't read %d bytes: %v", len(data), err)
		}
	}
}

// TestSame asks for the same several times, at the same time, and changes what
// it gets and what it gave.
func TestSame(t *testing.T) {
	data := mixed(source(6), 70000)
	h := gzip.Head{Named: true, Name: "the name", Time: 5}
	one := wrapped(t, h, deflate.All(data, 6, false), data)
	b := slices.Concat(one, one)
	wantParts, wantOut, _ := allModel(b, maxBytes, nan)
	var workers sync.WaitGroup
	for range 6 {
		workers.Go(func() {
			parts, out, code := gzip.All(b, maxBytes, nan)
			again, other, _ := gzip.All(b, maxBytes, nan)
			if !sameParts(parts, wantParts) || !bytes.Equal(out, wantOut) || code != api.OK {
				t.Errorf("17.3: equal arguments give %s, %d bytes, %d", told(parts), len(out), code)
			}
			clear(parts[:cap(parts)])
			clear(out[:cap(out)])
			if !sameParts(again, wantParts) || !bytes.Equal(other, wantOut) {
				t.Errorf("17.3: a change of a result changes another one")
			}
		})
	}
	workers.Wait()
	parts, out, _ := gzip.All(b, maxBytes, nan)
	got, _, _ := gzip.Read(b)
	clear(b)
	if !sameParts(parts, wantParts) || !bytes.Equal(out, wantOut) || got != h {
		t.Errorf("17.3: a change of the bytes changes what was read")
	}
	packed := []byte(hello)
	room := append(make([]byte, 0, 100), packed...)
	whole, _ := gzip.Wrap(h, room, 1, 5)
	before := bytes.Clone(whole)
	clear(room[:cap(room)])
	if !bytes.Equal(whole, before) {
		t.Errorf("17.2: a change of the compressed bytes changes the member")
	}
	room = append(room[:0], packed...)
	gzip.Wrap(h, room, 0xffffffff, 5)
	if string(room) != hello || !bytes.Equal(room[7:20], make([]byte, 13)) {
		t.Errorf("17.2: Wrap changes the compressed bytes, or what stands behind them")
	}
}
