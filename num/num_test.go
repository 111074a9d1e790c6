package num_test

import (
	"bytes"
	"math"
	"math/big"
	"math/rand/v2"
	"slices"
	"strconv"
	"strings"
	"testing"

	"stevedore/api"
	"stevedore/num"
)

// most is the greatest number that the document lets a text represent.
const most = 1 << 62

// answer is what a call that decodes a text answers.
type answer struct {
	v    int
	code api.Errno
}

// written is what a call that encodes a number answers.
type written struct {
	s    string
	code api.Errno
}

var form, outside = answer{0, api.ErrForm}, answer{0, api.ErrRange}

func octal(s string) answer   { v, code := num.Octal(s); return answer{v, code} }
func hex(s string) answer     { v, code := num.Hex(s); return answer{v, code} }
func decimal(s string) answer { v, code := num.Decimal(s); return answer{v, code} }

func putOctal(v, n int) written { s, code := num.PutOctal(v, n); return written{s, code} }
func putHex(v int) written      { s, code := num.PutHex(v); return written{s, code} }

// numbers returns numbers of all sizes from 0 to most, with their neighbours.
func numbers() []int {
	random := rand.New(rand.NewPCG(1, 2))
	l := []int{0, most, most - 1}
	for i := range 62 {
		v := 1 << i
		l = append(l, v-1, v, v+1, v|v>>1, random.IntN(2*v))
	}
	return slices.DeleteFunc(l, func(v int) bool { return v > most })
}

// strange returns texts with every byte in every place of good, and with one
// byte taken from it or laid to it.
func strange(good string) []string {
	l := []string{"", good + good}
	for i := range len(good) + 1 {
		for c := range 256 {
			l = append(l, good[:i]+string([]byte{byte(c)})+good[i:])
			if i < len(good) {
				l = append(l, good[:i]+string([]byte{byte(c)})+good[i+1:])
			}
		}
		if i < len(good) {
			l = append(l, good[:i]+good[i+1:])
		}
	}
	return l
}

// definedOctal is promise 3.2's definition of Octal, word by word.
func definedOctal(s string) answer {
	if s == "" {
		return form
	}
	b, v := []byte(s), new(big.Int)
	if b[0] >= 0x80 {
		if b[0] != 0x80 {
			return form
		}
		return inRange(v.SetBytes(b[1:]))
	}
	for len(b) > 0 && b[0] == 32 {
		b = b[1:]
	}
	for len(b) > 0 && b[0] >= '0' && b[0] <= '7' {
		v.Add(v.Mul(v, big.NewInt(8)), big.NewInt(int64(b[0]-'0')))
		b = b[1:]
	}
	for _, c := range b {
		if c != 32 && c != 0 {
			return form
		}
	}
	return inRange(v)
}

// inRange is the answer v, or the error if it is above most.
func inRange(v *big.Int) answer {
	if v.Cmp(big.NewInt(most)) > 0 {
		return outside
	}
	return answer{int(v.Int64()), api.OK}
}

// definedPutOctal is promise 3.2's definition of PutOctal, word by word.
func definedPutOctal(v, n int) written {
	if n < 2 || n > 32 {
		return written{"", api.ErrArg}
	}
	if v < 0 || v > most {
		return written{"", api.ErrRange}
	}
	if digits := strconv.FormatInt(int64(v), 8); len(digits) <= n-1 {
		for len(digits) < n-1 {
			digits = "0" + digits
		}
		return written{digits + "\x00", api.OK}
	}
	b := big.NewInt(int64(v)).Bytes()
	if len(b) > n-1 {
		return written{"", api.ErrRange}
	}
	return written{"\x80" + strings.Repeat("\x00", n-1-len(b)) + string(b), api.OK}
}

func TestReadExamples(t *testing.T) {
	b := []byte{1, 2, 3, 4, 5, 6, 7, 8, 9}
	for _, x := range []struct {
		at, n       int
		little, big uint64
		code        api.Errno
	}{
		{1, 3, 0x040302, 0x020304, api.OK},
		{0, 1, 1, 1, api.OK},
		{8, 1, 9, 9, api.OK},
		{1, 8, 0x0908070605040302, 0x0203040506070809, api.OK},
		{99, 9, 0, 0, api.ErrArg},
		{-1, 0, 0, 0, api.ErrArg},
		{0, -1, 0, 0, api.ErrArg},
		{2, 8, 0, 0, api.ErrShort},
		{9, 1, 0, 0, api.ErrShort},
		{-1, 1, 0, 0, api.ErrShort},
		{-3, 3, 0, 0, api.ErrShort},
	} {
		if v, code := num.Little(b, x.at, x.n); v != x.little || code != x.code {
			t.Errorf("3.1: Little(b, %d, %d) is %X, %d", x.at, x.n, v, code)
		}
		if v, code := num.Big(b, x.at, x.n); v != x.big || code != x.code {
			t.Errorf("3.1: Big(b, %d, %d) is %X, %d", x.at, x.n, v, code)
		}
	}
}

// checkRead holds Little and Big against promise 3.1.
func checkRead(t *testing.T, b []byte, at, n int) {
	t.Helper()
	var little, large uint64
	code := api.OK
	switch {
	case n < 1 || n > 8:
		code = api.ErrArg
	case at < 0 || at > len(b) || len(b)-at < n:
		code = api.ErrShort
	default:
		power := uint64(1)
		for i := range n {
			little += uint64(b[at+i]) * power
			large += uint64(b[at+n-1-i]) * power
			power *= 256
		}
	}
	if v, got := num.Little(b, at, n); v != little || got != code {
		t.Errorf("3.1: Little(%X, %d, %d) is %X, %d, not %X, %d", b, at, n, v, got, little, code)
	}
	if v, got := num.Big(b, at, n); v != large || got != code {
		t.Errorf("3.1: Big(%X, %d, %d) is %X, %d, not %X, %d", b, at, n, v, got, large, code)
	}
}

func TestReadEverywhere(t *testing.T) {
	places := []int{-1, -2, -8, math.MinInt, math.MinInt + 1, math.MinInt + 8,
		math.MaxInt, math.MaxInt - 1, math.MaxInt - 7, math.MaxInt - 8, math.MaxInt32, 1 << 32}
	whole := make([]byte, 40)
	rand.NewChaCha8([32]byte{3}).Read(whole)
	for l := range 21 {
		b := whole[:l] // more bytes lie behind it, which aren't its own
		for n := -1; n <= 10; n++ {
			for at := -10; at <= 30; at++ {
				checkRead(t, b, at, n)
			}
			for _, at := range places {
				checkRead(t, b, at, n)
			}
		}
		for _, n := range places {
			for _, at := range append(places, 0, l) {
				checkRead(t, b, at, n)
			}
		}
	}
	checkRead(t, nil, 0, 1)
	checkRead(t, []byte{}, 0, 1)
	for _, c := range []byte{0, 1, 0x7F, 0x80, 0xFF} {
		for n := range 9 {
			checkRead(t, bytes.Repeat([]byte{c}, 9), 1, n)
		}
	}
}

func TestPutExamples(t *testing.T) {
	if got := num.PutLittle([]byte{9}, 0x010203, 3); !slices.Equal(got, []byte{9, 3, 2, 1}) {
		t.Errorf("3.1: PutLittle(09, 010203, 3) is %X", got)
	}
	if got := num.PutBig([]byte{9}, 0x010203, 3); !slices.Equal(got, []byte{9, 1, 2, 3}) {
		t.Errorf("3.1: PutBig(09, 010203, 3) is %X", got)
	}
	b := []byte{7, 8}
	for _, n := range []int{9, 0, -1, 10, 64, math.MinInt, math.MaxInt} {
		if got := num.PutBig(b, 1, n); !slices.Equal(got, b) {
			t.Errorf("3.1: PutBig(b, 1, %d) is %X", n, got)
		}
		if got := num.PutLittle(b, 1, n); !slices.Equal(got, b) {
			t.Errorf("3.1: PutLittle(b, 1, %d) is %X", n, got)
		}
		if len(num.PutBig(nil, 1, n)) != 0 || len(num.PutLittle(nil, 1, n)) != 0 {
			t.Errorf("3.1: %d bytes of a number were put behind nothing", n)
		}
	}
}

func TestPutLowestBytes(t *testing.T) {
	values := []uint64{0, 1, 0xFF, 0x100, 0x0102030405060708, 0xF1E2D3C4B5A69788, 1 << 63, math.MaxUint64}
	for _, v := range values {
		for n := 1; n <= 8; n++ {
			little, large := []byte("ahead"), []byte("ahead")
			for i := range n {
				little = append(little, byte(v>>(8*i)))
				large = append(large, byte(v>>(8*(n-1-i))))
			}
			if got := num.PutLittle([]byte("ahead"), v, n); !slices.Equal(got, little) {
				t.Errorf("3.1: PutLittle of %X in %d bytes is %X", v, n, got)
			}
			if got := num.PutBig([]byte("ahead"), v, n); !slices.Equal(got, large) {
				t.Errorf("3.1: PutBig of %X in %d bytes is %X", v, n, got)
			}
			if !slices.Equal(num.PutLittle(nil, v, n), little[5:]) || !slices.Equal(num.PutBig(nil, v, n), large[5:]) {
				t.Errorf("3.1: %X in %d bytes behind nothing", v, n)
			}
		}
	}
}

// Room behind a slice isn't the call's to write on, and an answer is new even
// where nothing is put.
func TestPutSharesNothing(t *testing.T) {
	for n := -1; n <= 10; n++ {
		for _, put := range []func([]byte, uint64, int) []byte{num.PutLittle, num.PutBig} {
			room := bytes.Repeat([]byte{0xAA}, 32)
			got := put(room[:4], 0x0102030405060708, n)
			if !slices.Equal(room, bytes.Repeat([]byte{0xAA}, 32)) {
				t.Errorf("3.1: n %d: the room behind the argument was written on", n)
			}
			old := slices.Clone(got)
			clear(room)
			if !slices.Equal(got, old) {
				t.Errorf("3.1: n %d: the answer shares the argument's memory", n)
			}
			first, second := put(got[:4], 1, n), put(got[:4], 2, n)
			clear(second[:cap(second)])
			if !slices.Equal(first, put(got[:4], 1, n)) {
				t.Errorf("3.1: n %d: two answers share memory", n)
			}
		}
	}
}

func TestReadLeavesArguments(t *testing.T) {
	b := []byte{1, 2, 3, 4, 5, 6, 7, 8, 9}
	for n := range 9 {
		num.Little(b, 1, n)
		num.Big(b, 1, n)
	}
	if !slices.Equal(b, []byte{1, 2, 3, 4, 5, 6, 7, 8, 9}) {
		t.Error("3.1: the bytes changed")
	}
}

func TestOctalExamples(t *testing.T) {
	for s, want := range map[string]answer{
		" 17 ":                              {15, api.OK},
		"":                                  form,
		"8":                                 form,
		"9":                                 form,
		"0":                                 {0, api.OK},
		" ":                                 {0, api.OK},
		"\x00":                              {0, api.OK},
		"    \x00\x00 \x00":                 {0, api.OK},
		"0000644\x00":                       {0o644, api.OK},
		"644 \x00":                          {0o644, api.OK},
		"644\x00 \x00":                      {0o644, api.OK},
		"\x00644":                           form,
		"6 4":                               form,
		"64\x004":                           form,
		"64\t":                              form,
		"\t64":                              form,
		"-1":                                form,
		"+1":                                form,
		"0o7":                               form,
		"1_7":                               form,
		"18":                                form,
		"１":                                 form,
		"\u00A07":                           form,
		" \x80\x01":                         form,
		"1\x80":                             form,
		"400000000000000000000":             {most, api.OK},
		"377777777777777777777":             {most - 1, api.OK},
		"400000000000000000001":             outside,
		"777777777777777777777":             outside,
		"1000000000000000000000":            outside,
		"2000000000000000000000":            outside, // 2^64: nothing is left of it in 64 bits
		"2000000000000000000001":            outside,
		" 2000000000000000000001 \x00":      outside,
		strings.Repeat("7", 400):            outside,
		strings.Repeat("7", 400) + "8":      form,
		"400000000000000000001x":            form,
		strings.Repeat("0", 400) + "17":     {15, api.OK},
		strings.Repeat(" ", 400) + "17":     {15, api.OK},
		"17" + strings.Repeat(" \x00", 400): {15, api.OK},
		"17" + strings.Repeat(" \x00", 400) + "\n": form,
	} {
		if got := octal(s); got != want {
			t.Errorf("3.2: Octal of %q is %v, not %v", s, got, want)
		}
	}
}

func TestOctalBase256(t *testing.T) {
	for s, want := range map[string]answer{
		"\x80":                                 {0, api.OK},
		"\x80\x00":                             {0, api.OK},
		"\x80\x00\x02\x00":                     {512, api.OK},
		"\x80\xFF":                             {255, api.OK},
		"\x80\x80":                             {128, api.OK},
		"\x80 7":                               {32*256 + '7', api.OK},
		"\x80\x01\x00":                         {256, api.OK},
		"\x81":                                 form,
		"\x81\x01":                             form,
		"\xFF":                                 form,
		"\xFF\xFF\xFF\xFF\xFF\xFF\xFF\xFF":     form,
		"\xC0\x00\x00\x01":                     form,
		"\x80\x40\x00\x00\x00\x00\x00\x00\x00": {most, api.OK},
		"\x80\x3F\xFF\xFF\xFF\xFF\xFF\xFF\xFF": {most - 1, api.OK},
		"\x80\x40\x00\x00\x00\x00\x00\x00\x01": outside,
		"\x80\x40\x00\x00\x00\x00\x00\x01\x00": outside,
		"\x80\x7F\xFF\xFF\xFF\xFF\xFF\xFF\xFF": outside,
		"\x80\x80\x00\x00\x00\x00\x00\x00\x00": outside,
		"\x80\xFF\xFF\xFF\xFF\xFF\xFF\xFF\xFF": outside,
		"\x80\x01\x00\x00\x00\x00\x00\x00\x00\x00":                             outside, // 2^64
		"\x80\x01\x00\x00\x00\x00\x00\x00\x00\x05":                             outside,
		"\x80" + strings.Repeat("\x00", 400) + "\x07\x08":                      {7*256 + 8, api.OK},
		"\x80" + strings.Repeat("\x00", 400) + "@\x00\x00\x00\x00\x00\x00\x00": {most, api.OK},
		"\x80\x01" + strings.Repeat("\x00", 400):                               outside,
	} {
		if got := octal(s); got != want {
			t.Errorf("3.2: Octal of %q is %v, not %v", s, got, want)
		}
	}
}

func TestOctalEveryByte(t *testing.T) {
	for _, good := range []string{"", " ", "7", " 17 ", "17\x00", "400000000000000000000", "\x80\x01\x02", "\x80"} {
		for _, s := range strange(good) {
			if got, want := octal(s), definedOctal(s); got != want {
				t.Errorf("3.2: Octal of %q is %v, not %v", s, got, want)
			}
		}
	}
}

func TestOctalShortTexts(t *testing.T) {
	letters := " \x00\x01079:/\x7F\x80\x81\xFF"
	texts := []string{""}
	for range 5 {
		var longer []string
		for _, s := range texts {
			if got, want := octal(s), definedOctal(s); got != want {
				t.Fatalf("3.2: Octal of %q is %v, not %v", s, got, want)
			}
			for i := range len(letters) {
				longer = append(longer, s+letters[i:i+1])
			}
		}
		texts = longer
	}
}

func TestPutOctalExamples(t *testing.T) {
	for _, x := range []struct {
		v, n int
		want written
	}{
		{8, 4, written{"010\x00", api.OK}},
		{512, 4, written{"\x80\x00\x02\x00", api.OK}},
		{511, 4, written{"777\x00", api.OK}},
		{1<<24 - 1, 4, written{"\x80\xFF\xFF\xFF", api.OK}},
		{1 << 24, 4, written{"", api.ErrRange}},
		{0, 2, written{"0\x00", api.OK}},
		{7, 2, written{"7\x00", api.OK}},
		{8, 2, written{"\x80\x08", api.OK}},
		{255, 2, written{"\x80\xFF", api.OK}},
		{256, 2, written{"", api.ErrRange}},
		{0, 8, written{"0000000\x00", api.OK}},
		{0o7777777, 8, written{"7777777\x00", api.OK}},
		{0o10000000, 8, written{"\x80\x00\x00\x00\x00\x20\x00\x00", api.OK}},
		{0o77777777777, 12, written{"77777777777\x00", api.OK}},
		{most, 8, written{"", api.ErrRange}},
		{most, 9, written{"\x80\x40\x00\x00\x00\x00\x00\x00\x00", api.OK}},
		{most, 21, written{"\x80" + strings.Repeat("\x00", 12) + "\x40" + strings.Repeat("\x00", 7), api.OK}},
		{most, 22, written{"400000000000000000000\x00", api.OK}},
		{most, 32, written{"0000000000400000000000000000000\x00", api.OK}},
		{0, 32, written{strings.Repeat("0", 31) + "\x00", api.OK}},
		{most + 1, 32, written{"", api.ErrRange}},
		{math.MaxInt, 32, written{"", api.ErrRange}},
		{-1, 12, written{"", api.ErrRange}},
		{math.MinInt, 32, written{"", api.ErrRange}},
		{-1, 1, written{"", api.ErrArg}},
		{-1, 33, written{"", api.ErrArg}},
		{most + 1, 1, written{"", api.ErrArg}},
		{0, 1, written{"", api.ErrArg}},
		{0, 0, written{"", api.ErrArg}},
		{0, -1, written{"", api.ErrArg}},
		{0, 33, written{"", api.ErrArg}},
		{0, math.MaxInt, written{"", api.ErrArg}},
		{0, math.MinInt, written{"", api.ErrArg}},
	} {
		if got := putOctal(x.v, x.n); got != x.want {
			t.Errorf("3.2: PutOctal(%d, %d) is %q, %d, not %q, %d", x.v, x.n, got.s, got.code, x.want.s, x.want.code)
		}
	}
}

func TestPutOctalAllWidths(t *testing.T) {
	for _, v := range append(numbers(), -1, most+1, math.MaxInt, math.MinInt) {
		for n := -1; n <= 34; n++ {
			if got, want := putOctal(v, n), definedPutOctal(v, n); got != want {
				t.Errorf("3.2: PutOctal(%d, %d) is %q, %d, not %q, %d", v, n, got.s, got.code, want.s, want.code)
			}
		}
	}
	for v := range 1 << 12 {
		if got, want := putOctal(v, 4), definedPutOctal(v, 4); got != want {
			t.Errorf("3.2: PutOctal(%d, 4) is %q, %d, not %q, %d", v, got.s, got.code, want.s, want.code)
		}
	}
}

func TestHexExamples(t *testing.T) {
	for s, want := range map[string]answer{
		"00fFa0B1":         {0xFFA0B1, api.OK},
		"00000000":         {0, api.OK},
		"ffffffff":         {1<<32 - 1, api.OK},
		"FFFFFFFF":         {1<<32 - 1, api.OK},
		"80000000":         {1 << 31, api.OK},
		"89abcdef":         {0x89ABCDEF, api.OK},
		"01234567":         {0x01234567, api.OK},
		"FEDCBA98":         {0xFEDCBA98, api.OK},
		"":                 form,
		"1234567":          form,
		"123456789":        form,
		"012345678":        form,
		"0x123456":         form,
		"-1234567":         form,
		"+1234567":         form,
		" 1234567":         form,
		"1234567 ":         form,
		"1234567\x00":      form,
		"1234_678":         form,
		"1234567g":         form,
		"G1234567":         form,
		"1234５":            form,
		"0123456789abcdef": form,
	} {
		if got := hex(s); got != want {
			t.Errorf("3.3: Hex of %q is %v, not %v", s, got, want)
		}
	}
}

func TestHexEveryByte(t *testing.T) {
	for _, s := range strange("1aBcD9f0") {
		want := form
		if v, err := strconv.ParseUint(s, 16, 64); err == nil && len(s) == 8 {
			want = answer{int(v), api.OK}
		}
		if got := hex(s); got != want {
			t.Errorf("3.3: Hex of %q is %v, not %v", s, got, want)
		}
	}
}

func TestPutHex(t *testing.T) {
	for v, want := range map[int]written{
		0xABC:           {"00000abc", api.OK},
		0:               {"00000000", api.OK},
		9:               {"00000009", api.OK},
		10:              {"0000000a", api.OK},
		0xFEDCBA98:      {"fedcba98", api.OK},
		1<<31 - 1:       {"7fffffff", api.OK},
		1 << 31:         {"80000000", api.OK},
		1<<32 - 1:       {"ffffffff", api.OK},
		1 << 32:         {"", api.ErrRange},
		1<<32 + 1:       {"", api.ErrRange},
		-1:              {"", api.ErrRange},
		-(1 << 32):      {"", api.ErrRange},
		most:            {"", api.ErrRange},
		math.MaxInt:     {"", api.ErrRange},
		math.MinInt:     {"", api.ErrRange},
		math.MinInt + 5: {"", api.ErrRange},
	} {
		if got := putHex(v); got != want {
			t.Errorf("3.3: PutHex(%d) is %q, %d, not %q, %d", v, got.s, got.code, want.s, want.code)
		}
	}
}

func TestDecimalExamples(t *testing.T) {
	for s, want := range map[string]answer{
		"007":                          {7, api.OK},
		"0":                            {0, api.OK},
		"9":                            {9, api.OK},
		"1234567890":                   {1234567890, api.OK},
		"4611686018427387903":          {most - 1, api.OK},
		"4611686018427387904":          {most, api.OK},
		"4611686018427387905":          outside,
		"4611686018427387910":          outside,
		"9223372036854775807":          outside,
		"9223372036854775808":          outside,
		"18446744073709551616":         outside, // 2^64: nothing is left of it in 64 bits
		"18446744073709551617":         outside,
		"":                             form,
		" 7":                           form,
		"7 ":                           form,
		"7\x00":                        form,
		"-1":                           form,
		"+1":                           form,
		"1.0":                          form,
		"1_0":                          form,
		"1e3":                          form,
		"0x1":                          form,
		"a":                            form,
		"７":                            form,
		"4611686018427387905x":         form,
		"x4611686018427387905":         form,
		strings.Repeat("9", 400):       outside,
		strings.Repeat("9", 400) + "/": form,
		strings.Repeat("0", 400):       {0, api.OK},
		strings.Repeat("0", 400) + "4611686018427387904": {most, api.OK},
		strings.Repeat("0", 400) + "4611686018427387905": outside,
	} {
		if got := decimal(s); got != want {
			t.Errorf("3.3: Decimal of %q is %v, not %v", s, got, want)
		}
	}
}

func TestDecimalEveryByte(t *testing.T) {
	for _, good := range []string{"7", "007", "4611686018427387904"} {
		for _, s := range strange(good) {
			want := form
			if v, ok := new(big.Int).SetString(s, 10); ok && s[0] >= '0' {
				want = inRange(v)
			}
			if got := decimal(s); got != want {
				t.Errorf("3.3: Decimal of %q is %v, not %v", s, got, want)
			}
		}
	}
}

func TestBytesComeBack(t *testing.T) {
	for _, v := range numbers() {
		for n := 1; n <= 8; n++ {
			want := uint64(v) << (64 - 8*n) >> (64 - 8*n)
			got, code := num.Little(num.PutLittle([]byte("ahead"), uint64(v), n), 5, n)
			if got != want || code != api.OK {
				t.Errorf("3.4: %X in %d bytes comes back as %X, %d", v, n, got, code)
			}
			got, code = num.Big(num.PutBig([]byte("ahead"), uint64(v), n), 5, n)
			if got != want || code != api.OK {
				t.Errorf("3.4: %X in %d bytes comes back as %X, %d", v, n, got, code)
			}
		}
	}
	for _, v := range []uint64{1 << 63, math.MaxUint64, 0x8001020304050607} {
		little, _ := num.Little(num.PutLittle(nil, v, 8), 0, 8)
		large, _ := num.Big(num.PutBig(nil, v, 8), 0, 8)
		if little != v || large != v {
			t.Errorf("3.4: %X comes back as %X and %X", v, little, large)
		}
	}
}

func TestTextsComeBack(t *testing.T) {
	for _, v := range numbers() {
		for n := 2; n <= 32; n++ {
			if field := putOctal(v, n); field.code == api.OK && (octal(field.s) != answer{v, api.OK} || len(field.s) != n) {
				t.Errorf("3.4: %d comes back as %v from %q, of %d bytes", v, octal(field.s), field.s, n)
			}
		}
		if field := putOctal(v, 12); field.code != api.OK {
			t.Errorf("3.4: %d has no field of 12 bytes", v)
		}
		if digits := putHex(v); v < 1<<32 && (hex(digits.s) != answer{v, api.OK} || hex(strings.ToUpper(digits.s)) != answer{v, api.OK}) {
			t.Errorf("3.4: %d comes back as %v from %q", v, hex(digits.s), digits.s)
		}
		if s := strconv.Itoa(v); decimal(s) != (answer{v, api.OK}) {
			t.Errorf("3.4: %d comes back as %v from %q", v, decimal(s), s)
		}
	}
}
