package feed_test

import (
	"bytes"
	"math"
	"math/rand/v2"
	"runtime"
	"slices"
	"strconv"
	"testing"

	"stevedore/api"
	"stevedore/feed"
)

// outside are numbers of bits beyond what Peek takes.
var outside = []int{
	math.MinInt, -1 << 32, 1 - 1<<32, -64, -33, -32, -8, -1, 0,
	33, 34, 63, 64, 65, 128, 256, 257, 1 << 31, 1<<32 + 1, math.MaxInt,
}

// below are negative numbers.
var below = []int{-1, -2, -7, -8, -64, math.MinInt32, math.MinInt + 7, math.MinInt}

// model is promise 6.1's definition of a Feed: all bytes, and a position in bits.
type model struct {
	data  []byte
	at    int
	ended bool
}

func (m *model) push(b []byte) {
	if !m.ended {
		m.data = append(m.data, b...)
	}
}

func (m *model) bits() int { return 8*len(m.data) - m.at }

func (m *model) peek(n int) (v uint32) {
	if n < 1 || n > 32 {
		return 0
	}
	for i := range min(n, m.bits()) {
		v |= uint32(m.data[(m.at+i)/8]>>((m.at+i)%8)&1) << i
	}
	return v
}

func (m *model) skip(n int) api.Errno {
	switch {
	case n < 0:
		return api.ErrArg
	case n > m.bits():
		return api.ErrShort
	}
	m.at += n
	return api.OK
}

func (m *model) align() { m.at = (m.at + 7) / 8 * 8 }

func (m *model) take(n int) ([]byte, api.Errno) {
	if n < 0 {
		return nil, api.ErrArg
	}
	m.align()
	if n > m.bits()/8 {
		return nil, api.ErrShort
	}
	m.at += 8 * n
	return m.data[m.at/8-n : m.at/8], api.OK
}

// differs tells what f answers otherwise than m, or nothing.
func differs(f *feed.Feed, m *model) string {
	used := (m.at + 7) / 8
	unused := len(m.data) - used
	switch held := f.Held(); {
	case f.Bits() != m.bits():
		return "Bits is " + strconv.Itoa(f.Bits()) + ", want " + strconv.Itoa(m.bits())
	case f.Used() != used:
		return "Used is " + strconv.Itoa(f.Used()) + ", want " + strconv.Itoa(used)
	case held < unused || held > unused+8:
		return "Held is " + strconv.Itoa(held) + " with " + strconv.Itoa(unused) + " bytes that aren't used"
	case f.Ended() != m.ended:
		return "Ended is " + strconv.FormatBool(f.Ended())
	}
	for n := -1; n <= 34; n++ {
		if f.Peek(n) != m.peek(n) {
			return "Peek(" + strconv.Itoa(n) + ") is " + strconv.Itoa(int(f.Peek(n))) + ", want " + strconv.Itoa(int(m.peek(n)))
		}
	}
	return ""
}

// mixed returns n bytes that follow no short rule, the same ones every time.
func mixed(n int, seed byte) []byte {
	b := make([]byte, n)
	rand.NewChaCha8([32]byte{seed}).Read(b)
	return b
}

// loaded returns a Feed that was pushed all of b at once, at a position in bits, and its model.
func loaded(t *testing.T, b []byte, at int) (*feed.Feed, *model) {
	t.Helper()
	f := feed.New()
	f.Push(b)
	if code := f.Skip(at); code != api.OK {
		t.Fatalf("6.1: Skip(%d) of %d bytes is %d", at, len(b), code)
	}
	return f, &model{data: b, at: at}
}

func TestExamples(t *testing.T) {
	f := feed.New()
	if f.Bits() != 0 || f.Used() != 0 || f.Held() > 8 || f.Ended() || f.Peek(32) != 0 {
		t.Error("6.1: a new Feed isn't empty")
	}
	f.Push([]byte{0x1D})
	if f.Peek(3) != 5 || f.Peek(33) != 0 {
		t.Errorf("6.1: behind Push of 1D, Peek(3) is %d, Peek(33) %d", f.Peek(3), f.Peek(33))
	}
	if code := f.Skip(3); code != api.OK || f.Bits() != 5 || f.Used() != 1 || f.Peek(3) != 3 {
		t.Errorf("6.1: Skip(3) is %d and leaves %d bits, Used %d, Peek(3) %d", code, f.Bits(), f.Used(), f.Peek(3))
	}
	if f.Skip(6) != api.ErrShort || f.Skip(-1) != api.ErrArg || f.Bits() != 5 {
		t.Error("6.1: Skip(6) or Skip(-1) with five bits")
	}
	if f.Held() > 8 {
		t.Errorf("6.1: Held is %d when all bytes are used", f.Held())
	}
	f.Push([]byte{1, 2, 3})
	if b, code := f.Take(2); !bytes.Equal(b, []byte{1, 2}) || code != api.OK {
		t.Errorf("6.1: Take(2) is %X, %d", b, code)
	}
	if b, code := f.Take(2); b != nil || code != api.ErrShort {
		t.Errorf("6.1: another Take(2) is %X, %d", b, code)
	}
	f.End()
	f.Push([]byte{4})
	if !f.Ended() || f.Bits() != 8 {
		t.Errorf("6.1: behind End, Ended is %t and Bits %d", f.Ended(), f.Bits())
	}
}

func TestPeek(t *testing.T) {
	b := mixed(90, 1)
	for at := range 8*len(b) + 1 {
		f, m := loaded(t, b, at)
		for range 2 { // Peek doesn't advance
			if wrong := differs(f, m); wrong != "" {
				t.Fatalf("6.1: at bit %d of %d: %s", at, 8*len(b), wrong)
			}
		}
	}
}

func TestPeekOutside(t *testing.T) {
	for _, b := range [][]byte{nil, {0xFF}, mixed(100, 2)} {
		f, m := loaded(t, b, min(3, 8*len(b)))
		for _, n := range outside {
			if f.Peek(n) != 0 {
				t.Errorf("6.1: Peek(%d) is %X", n, f.Peek(n))
			}
		}
		if wrong := differs(f, m); wrong != "" {
			t.Errorf("6.1: behind Peek of wrong numbers: %s", wrong)
		}
	}
}

func TestPeekBehindTheEnd(t *testing.T) {
	for n := 1; n <= 32; n++ {
		f := feed.New()
		f.Push([]byte{0xFF, 0xFF})
		f.Skip(3)
		f.End()
		if want := uint32(0x1FFF & (1<<n - 1)); f.Peek(n) != want {
			t.Errorf("6.1: Peek(%d) of 13 bits 1 is %X", n, f.Peek(n))
		}
		f.Skip(13)
		if f.Peek(n) != 0 {
			t.Errorf("6.1: Peek(%d) of no bits is %X", n, f.Peek(n))
		}
	}
}

func TestSkip(t *testing.T) {
	b := mixed(150, 3)
	for at := 0; at <= 8*len(b); at += 13 {
		for n := range 8*len(b) + 9 - at {
			f, m := loaded(t, b, at)
			if code, want := f.Skip(n), m.skip(n); code != want {
				t.Fatalf("6.1: Skip(%d) at %d of %d is %d, want %d", n, at, 8*len(b), code, want)
			}
			if wrong := differs(f, m); wrong != "" {
				t.Fatalf("6.1: Skip(%d) at %d of %d: %s", n, at, 8*len(b), wrong)
			}
		}
	}
}

func TestSkipWrong(t *testing.T) {
	for _, b := range [][]byte{nil, {0x1D}, mixed(200, 4)} {
		f, m := loaded(t, b, min(5, 8*len(b)))
		for _, n := range below {
			if code := f.Skip(n); code != api.ErrArg {
				t.Errorf("6.1: Skip(%d) is %d", n, code)
			}
		}
		for _, n := range []int{m.bits() + 1, m.bits() + 8, 1 << 31, math.MaxInt - 7, math.MaxInt} {
			if code := f.Skip(n); code != api.ErrShort {
				t.Errorf("6.1: Skip(%d) of %d bits is %d", n, m.bits(), code)
			}
		}
		if wrong := differs(f, m); wrong != "" {
			t.Errorf("6.1: a wrong Skip changed something: %s", wrong)
		}
		if code := f.Skip(0); code != api.OK {
			t.Errorf("6.1: Skip(0) is %d", code)
		}
		if code := f.Skip(m.bits()); code != api.OK || f.Bits() != 0 {
			t.Errorf("6.1: Skip of all bits is %d and leaves %d", code, f.Bits())
		}
		if code := f.Skip(0); code != api.OK {
			t.Errorf("6.1: Skip(0) of no bits is %d", code)
		}
	}
}

func TestAlign(t *testing.T) {
	b := mixed(80, 5)
	for at := range 8*len(b) + 1 {
		f, m := loaded(t, b, at)
		for range 2 { // the second Align is at a byte boundary
			f.Align()
			m.align()
			if wrong := differs(f, m); wrong != "" {
				t.Fatalf("6.1: Align at %d: %s", at, wrong)
			}
		}
	}
}

func TestTake(t *testing.T) {
	b := mixed(200, 6)
	for at := 0; at <= 8*len(b); at += 11 {
		for n := range len(b) + 3 - at/8 {
			f, m := loaded(t, b, at)
			got, code := f.Take(n)
			want, fault := m.take(n)
			if !bytes.Equal(got, want) || code != fault {
				t.Fatalf("6.1: Take(%d) at %d is %d bytes, %d, want %d bytes, %d", n, at, len(got), code, len(want), fault)
			}
			if wrong := differs(f, m); wrong != "" {
				t.Fatalf("6.1: Take(%d) at %d, %d: %s", n, at, code, wrong)
			}
		}
	}
}

func TestTakeWrong(t *testing.T) {
	for _, b := range [][]byte{nil, {0x1D}, {0x1D, 1, 2}, mixed(300, 7)} {
		f, m := loaded(t, b, min(3, 8*len(b)))
		for _, n := range below {
			if got, code := f.Take(n); got != nil || code != api.ErrArg {
				t.Errorf("6.1: Take(%d) is %X, %d", n, got, code)
			}
		}
		if wrong := differs(f, m); wrong != "" {
			t.Errorf("6.1: Take of negative numbers: %s", wrong)
		}
		m.align()
		for _, n := range []int{m.bits()/8 + 1, 1 << 31, 1 << 60, 1 << 61, math.MaxInt} {
			if got, code := f.Take(n); got != nil || code != api.ErrShort {
				t.Errorf("6.1: Take(%d) of %d bytes is %X, %d", n, m.bits()/8, got, code)
			}
			if wrong := differs(f, m); wrong != "" {
				t.Errorf("6.1: Take of too many isn't at the byte boundary: %s", wrong)
			}
		}
		if got, code := f.Take(m.bits() / 8); !bytes.Equal(got, b[m.at/8:]) || code != api.OK {
			t.Errorf("6.1: Take of the rest is %d bytes, %d", len(got), code)
		}
	}
}

func TestTakeNothingAligns(t *testing.T) {
	f, m := loaded(t, []byte{0x1D, 1}, 3)
	got, code := f.Take(0)
	m.align()
	if wrong := differs(f, m); len(got) != 0 || code != api.OK || wrong != "" {
		t.Errorf("6.1: Take(0) is %X, %d; %s", got, code, wrong)
	}
	f.Skip(8)
	if got, code := f.Take(0); len(got) != 0 || code != api.OK {
		t.Errorf("6.1: Take(0) of nothing is %X, %d", got, code)
	}
}

func TestTakenIsTheCallers(t *testing.T) {
	b := mixed(500, 8)
	f, m := loaded(t, b, 0)
	var all []byte
	for _, n := range []int{1, 7, 8, 63, 64, 65, 100, 192} {
		got, _ := f.Take(n)
		all = append(all, got...)
		for i := range got {
			got[i] ^= 0xFF
		}
		_ = append(got, 1, 2, 3)
		m.take(n)
		if wrong := differs(f, m); wrong != "" {
			t.Fatalf("6.1: what Take(%d) answered is the Feed's: %s", n, wrong)
		}
	}
	f.Push(mixed(500, 9))
	if !bytes.Equal(all, b) {
		t.Error("6.1: Take answers other bytes than those that were pushed")
	}
}

func TestPushKeepsACopy(t *testing.T) {
	for _, n := range []int{1, 2, 8, 9, 63, 64, 65, 200} {
		b := mixed(n, 10)
		old := slices.Clone(b)
		f := feed.New()
		f.Push(b)
		if !bytes.Equal(b, old) {
			t.Errorf("6.1: Push changed its %d bytes", n)
		}
		clear(b)
		if got, code := f.Take(n); !bytes.Equal(got, old) || code != api.OK || !bytes.Equal(b, make([]byte, n)) {
			t.Errorf("6.1: the Feed kept the %d bytes that it was given", n)
		}
	}
}

func TestPushNothing(t *testing.T) {
	f, m := feed.New(), &model{}
	for _, b := range [][]byte{nil, {}, {7}, nil, {}} {
		f.Push(b)
		m.push(b)
		if wrong := differs(f, m); wrong != "" {
			t.Errorf("6.1: behind Push of %d bytes: %s", len(b), wrong)
		}
	}
}

func TestEnd(t *testing.T) {
	for _, n := range []int{0, 1, 5, 100} {
		f, m := loaded(t, mixed(n, 11), min(3, 8*n))
		for range 2 {
			f.End()
			m.ended = true
			f.Push([]byte{1, 2, 3})
			f.Push(nil)
			if wrong := differs(f, m); wrong != "" {
				t.Errorf("6.1: Push behind End of %d bytes: %s", n, wrong)
			}
		}
		if code := f.Skip(m.bits()); code != api.OK {
			t.Errorf("6.1: Skip behind End of %d bytes is %d", n, code)
		}
		if code := f.Skip(1); code != api.ErrShort {
			t.Errorf("6.1: Skip of no bits behind End is %d", code)
		}
	}
}

func TestFeedsAreApart(t *testing.T) {
	a, b := feed.New(), feed.New()
	a.Push([]byte{1})
	b.Push([]byte{2, 3})
	a.Skip(3)
	b.End()
	if a.Bits() != 5 || b.Bits() != 16 || a.Ended() || b.Peek(8) != 2 {
		t.Error("6.1: two Feeds share what they have")
	}
}

func TestFeedThatNobodyMade(t *testing.T) {
	for _, f := range []*feed.Feed{nil, {}} {
		none := f == nil
		if wrong := differs(f, &model{}); wrong != "" {
			t.Errorf("6.1: a Feed that nobody made (nil: %t): %s", none, wrong)
		}
		f.Align()
		if f.Skip(0) != api.OK || f.Skip(1) != api.ErrShort || f.Skip(-1) != api.ErrArg {
			t.Errorf("6.1: Skip of a Feed that nobody made (nil: %t)", none)
		}
		for n, want := range map[int]api.Errno{0: api.OK, 1: api.ErrShort, -1: api.ErrArg, math.MaxInt: api.ErrShort} {
			if b, code := f.Take(n); len(b) != 0 || code != want {
				t.Errorf("6.1: Take(%d) of a Feed that nobody made (nil: %t) is %X, %d", n, none, b, code)
			}
		}
		f.Push([]byte{1, 2})
		f.End()
		if got := f.Bits(); got != 16 && !none || got != 0 && none {
			t.Errorf("6.1: a Feed that nobody made (nil: %t) has %d bits behind a Push", none, got)
		}
	}
}

// TestCopiedFeed is of rule 1: a program can copy a Feed, and no call panics.
func TestCopiedFeed(t *testing.T) {
	random := rand.New(rand.NewPCG(1, 2))
	for range 300 {
		f := feed.New()
		f.Push(mixed(random.IntN(200), 12))
		f.Skip(random.IntN(1 + f.Bits()))
		other := *f
		for range 100 {
			for _, x := range []*feed.Feed{f, &other} {
				x.Skip(random.IntN(40))
				x.Take(random.IntN(20))
				x.Peek(32)
				x.Push(mixed(random.IntN(20), 13))
				x.Skip(x.Bits() / (1 + random.IntN(3)))
			}
		}
	}
}

// step is one call, the same of a Feed and of its model; it tells whether their answers are equal.
func step(f *feed.Feed, m *model, random *rand.Rand) bool {
	switch random.IntN(10) {
	case 0:
		f.Align()
		m.align()
	case 1, 2:
		b := mixed(random.IntN(1<<random.IntN(9)), byte(random.Uint32()))
		f.Push(b)
		m.push(b)
	case 3, 4:
		n := random.IntN(1<<random.IntN(8)) - 1
		got, code := f.Take(n)
		want, fault := m.take(n)
		return bytes.Equal(got, want) && code == fault
	case 5:
		if random.IntN(30) == 0 {
			f.End()
			m.ended = true
		}
	default:
		n := random.IntN(1<<random.IntN(11)) - 1
		return f.Skip(n) == m.skip(n)
	}
	return true
}

func TestAnyOrder(t *testing.T) {
	random := rand.New(rand.NewPCG(3, 4))
	for range 2000 {
		f, m := feed.New(), &model{}
		for i := range random.IntN(150) {
			if !step(f, m, random) {
				t.Fatalf("6.1: call %d answers otherwise than it has to", i)
			}
			if wrong := differs(f, m); wrong != "" {
				t.Fatalf("6.1: behind call %d: %s", i, wrong)
			}
		}
	}
}

// divided returns a Feed that was pushed b in pieces of no more than so many bytes.
func divided(b []byte, most int, random *rand.Rand) *feed.Feed {
	f := feed.New()
	for len(b) > 0 {
		n := min(len(b), random.IntN(most+1))
		f.Push(b[:n])
		b = b[n:]
	}
	return f
}

func TestDivision(t *testing.T) {
	random := rand.New(rand.NewPCG(5, 6))
	for range 300 {
		b := mixed(random.IntN(600), byte(random.Uint32()))
		seed := random.Uint64()
		for _, most := range []int{1, 2, 3, 7, 8, 9, 63, 64, 65, 200, 600} {
			f, m := divided(b, most, random), &model{data: slices.Clone(b)}
			same := rand.New(rand.NewPCG(seed, 7))
			for range 60 {
				if !step(f, m, same) {
					t.Fatalf("6.2: %d bytes in pieces of up to %d answer otherwise", len(b), most)
				}
				if wrong := differs(f, m); wrong != "" {
					t.Fatalf("6.2: %d bytes in pieces of up to %d: %s", len(b), most, wrong)
				}
			}
		}
	}
}

// part is what is read at once: n bits, or n bytes.
type part struct {
	n     int
	bytes bool
}

// read reads a part, if it is there; what it answers tells all of it.
func (p part) read(f *feed.Feed) (string, bool) {
	if p.bytes {
		b, code := f.Take(p.n)
		return string(b), code == api.OK
	}
	v := f.Peek(p.n)
	return strconv.Itoa(int(v)), f.Skip(p.n) == api.OK
}

// TestDivisionAsItArrives reads parts as soon as their bytes are there.
func TestDivisionAsItArrives(t *testing.T) {
	random := rand.New(rand.NewPCG(8, 9))
	b := mixed(3000, 14)
	var parts []part
	for range 500 {
		parts = append(parts, part{1 + random.IntN(32), random.IntN(9) == 0})
	}
	var whole []string
	all := feed.New()
	all.Push(b)
	for _, p := range parts {
		got, ok := p.read(all)
		if !ok {
			t.Fatal("6.2: too few bytes for the test")
		}
		whole = append(whole, got)
	}
	for most := 1; most < 300; most++ {
		f, rest := feed.New(), b
		for i, p := range parts {
			got, ok := p.read(f)
			for !ok {
				n := min(len(rest), 1+random.IntN(most))
				f.Push(rest[:n])
				rest = rest[n:]
				got, ok = p.read(f)
			}
			if got != whole[i] {
				t.Fatalf("6.2: part %d of what arrives in pieces of up to %d is %q, want %q", i, most, got, whole[i])
			}
		}
		if f.Used() != all.Used() {
			t.Fatalf("6.2: Used is %d, at once %d", f.Used(), all.Used())
		}
	}
}

// TestManyBytes ends soon only if using a few bits doesn't move all bytes that follow.
func TestManyBytes(t *testing.T) {
	b := mixed(1<<24, 15)
	f := feed.New()
	f.Push(b)
	for at := 0; at < len(b); {
		if v := f.Peek(24); v != uint32(b[at])|uint32(b[at+1])<<8|uint32(b[at+2])<<16 {
			t.Fatalf("6.1: at byte %d of many, Peek(24) is %X", at, v)
		}
		if f.Skip(7) != api.OK || f.Skip(17) != api.OK || f.Held() > f.Bits()/8+8 {
			t.Fatalf("6.1: at byte %d of many, Skip fails, or Held is %d", at, f.Held())
		}
		at += 3
		n := min(13, len(b)-at)
		if got, code := f.Take(n); !bytes.Equal(got, b[at:at+n]) || code != api.OK {
			t.Fatalf("6.1: at byte %d of many, Take(%d) is %X, %d", at, n, got, code)
		}
		at += n
	}
}

// space returns how many bytes the program keeps.
func space() int {
	var stats runtime.MemStats
	runtime.GC()
	runtime.ReadMemStats(&stats)
	return int(stats.HeapAlloc)
}

// TestUsedBytesAreGivenUp holds Held against the memory that is really kept.
func TestUsedBytesAreGivenUp(t *testing.T) {
	const size, few = 1 << 25, 100
	before := space()
	f := feed.New()
	for range 32 {
		f.Push(make([]byte, size/32))
	}
	for f.Bits() > 8*few {
		f.Skip(min(8000, f.Bits()-8*few))
	}
	if after := space(); after-before > size/16 {
		t.Errorf("6.1: with %d bytes that aren't used, Held is %d, but some %d are kept", few, f.Held(), after-before)
	}
	if f.Bits() != 8*few || f.Held() > few+8 || f.Used() != size-few {
		t.Errorf("6.1: %d bits are left, Held is %d, Used %d", f.Bits(), f.Held(), f.Used())
	}
}
