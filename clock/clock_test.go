package clock_test

import (
	"math"
	"math/big"
	"math/rand/v2"
	"strings"
	"testing"
	"time"

	"stevedore/api"
	"stevedore/clock"
)

var nan, inf, minusZero = math.NaN(), math.Inf(1), math.Copysign(0, -1)

// top is the greatest time that Fine, Text and Parse know.
const top = 1 << 33

// same tells whether two floats are the same number, -0 and 0 apart.
func same(a, b float64) bool {
	return a == b && math.Signbit(a) == math.Signbit(b) || math.IsNaN(a) && math.IsNaN(b)
}

// seconds returns the time of a moment, in seconds.
func seconds(y, m, d, hour, minute, second int) int {
	return int(time.Date(y, time.Month(m), d, hour, minute, second, 0, time.UTC).Unix())
}

// times returns times of all sizes and signs, with their neighbours, and those
// that are no numbers.
func times() []float64 {
	random := rand.New(rand.NewPCG(1, 2))
	l := []float64{nan, math.Copysign(nan, -1), inf, -inf, minusZero, 0, math.MaxFloat64, math.SmallestNonzeroFloat64}
	for _, t := range []float64{315532800, 4354819200, 4354819198, top, 1 << 32, 1<<32 - 1, 1 << 40, 1 << 53} {
		l = append(l, t-1, t-0.5, math.Nextafter(t, 0), t, math.Nextafter(t, inf), t+0.5, t+1)
	}
	for i := range 90 {
		t := math.Ldexp(1, i-50)
		l = append(l, t, math.Nextafter(t, 0), math.Nextafter(t, inf), t*random.Float64(), t*1.5)
	}
	for range 5000 {
		l = append(l, random.Float64()*5e9, float64(random.Int64N(top*512))/512, math.Float64frombits(random.Uint64()))
	}
	for _, t := range l {
		l = append(l, -t)
	}
	return l
}

func TestDays(t *testing.T) {
	for _, c := range [][4]int{
		{2000, 3, 1, 11017}, {2026, 2, 31, 20515}, {1970, 13, 1, 0}, {1970, 1, 1, 0}, {1969, 12, 31, -1},
	} {
		if got := clock.Days(c[0], c[1], c[2]); got != c[3] {
			t.Errorf("4.1: Days(%d, %d, %d) = %d, want %d", c[0], c[1], c[2], got, c[3])
		}
	}
	years := []int{-100000, -99999, -401, -400, -399, -101, -100, -99, -4, -1, 0, 1, 4, 99999, 100000}
	for y := 1580; y < 2420; y++ {
		years = append(years, y)
	}
	for _, y := range years {
		for m := 1; m <= 12; m++ {
			for d := 1; d <= 31; d++ {
				want := seconds(y, m, d, 0, 0, 0) / 86400
				if got := clock.Days(y, m, d); got != want {
					t.Fatalf("4.1: Days(%d, %d, %d) = %d, want %d", y, m, d, got, want)
				}
			}
		}
	}
}

func TestDaysOutside(t *testing.T) {
	for _, c := range [][3]int{
		{-100001, 1, 1}, {100001, 1, 1}, {math.MinInt, 1, 1}, {math.MaxInt, 12, 31},
		{2000, 0, 1}, {2000, 13, 1}, {2000, -1, 1}, {2000, math.MinInt, 1}, {2000, math.MaxInt, 1},
		{2000, 1, 0}, {2000, 1, 32}, {2000, 1, -1}, {2000, 1, math.MinInt}, {2000, 1, math.MaxInt},
	} {
		if got := clock.Days(c[0], c[1], c[2]); got != 0 {
			t.Errorf("4.1: Days(%d, %d, %d) = %d, want 0", c[0], c[1], c[2], got)
		}
	}
}

// date is promise 4.1's definition of Date.
func date(seconds int) api.Date {
	if seconds < -1<<40 || seconds > 1<<40 {
		return api.Date{}
	}
	d := time.Unix(int64(seconds), 0).UTC()
	return api.Date{
		Year: d.Year(), Month: int(d.Month()), Day: d.Day(),
		Hour: d.Hour(), Minute: d.Minute(), Second: d.Second(),
	}
}

func TestDate(t *testing.T) {
	if got, want := clock.Date(-1), (api.Date{Year: 1969, Month: 12, Day: 31, Hour: 23, Minute: 59, Second: 59}); got != want {
		t.Errorf("4.1: Date(-1) = %v, want %v", got, want)
	}
	l := []int{0, 1, -1, 59, 60, 3599, 3600, 86399, 86400, math.MinInt, math.MaxInt}
	for _, v := range []int{1 << 40, -1 << 40} {
		l = append(l, v-2, v-1, v, v+1, v+2)
	}
	for day := -150000; day < 150000; day++ {
		l = append(l, day*86400-1, day*86400, day*86400+day&0xFFFF)
	}
	for _, y := range []int{-401, -400, -100, -1, 0, 1, 1600, 1700, 1900, 1970, 2000, 2004, 2100} {
		for day := -2; day < 370; day++ {
			l = append(l, seconds(y, 1, 1+day, 23, 59, 59), seconds(y, 1, 1+day, 0, 0, 0))
		}
	}
	random := rand.New(rand.NewPCG(3, 4))
	for range 100000 {
		l = append(l, int(random.Int64N(1<<41+2000))-1<<40-1000)
	}
	for _, v := range l {
		if got, want := clock.Date(v), date(v); got != want {
			t.Fatalf("4.1: Date(%d) = %v, want %v", v, got, want)
		}
	}
}

func TestSeconds(t *testing.T) {
	if got, ok := clock.Seconds(api.Date{Year: 2000, Month: 2, Day: 29, Hour: 23, Minute: 59, Second: 59}); got != 951868799 || !ok {
		t.Errorf("4.1: Seconds(2000-02-29 23:59:59) = %d, %v", got, ok)
	}
	numbers := []int{math.MinInt, -1 << 32, -1, 0, 1, 2, 4, 6, 11, 12, 13, 23, 24, 28, 29, 30, 31, 32, 59, 60, 1 << 32, math.MaxInt}
	years := []int{math.MinInt, -1, 0, 1, 4, 1900, 2000, 2001, 2024, 2100, 9999, 10000, math.MaxInt}
	for _, y := range years {
		for _, m := range numbers {
			for _, d := range numbers {
				checkSeconds(t, api.Date{Year: y, Month: m, Day: d})
				checkSeconds(t, api.Date{Year: y, Month: m, Day: d, Hour: 23, Minute: 59, Second: 59})
			}
		}
	}
	for _, hour := range numbers {
		for _, minute := range numbers {
			for _, second := range numbers {
				checkSeconds(t, api.Date{Year: 2024, Month: 2, Day: 29, Hour: hour, Minute: minute, Second: second})
			}
		}
	}
}

// checkSeconds holds Seconds of a date against promise 4.1.
func checkSeconds(t *testing.T, d api.Date) {
	t.Helper()
	within := func(v, least, most int) bool { return least <= v && v <= most }
	want, exists := 0, within(d.Year, 1, 9999) && within(d.Month, 1, 12) && within(d.Day, 1, 31) &&
		within(d.Hour, 0, 23) && within(d.Minute, 0, 59) && within(d.Second, 0, 59)
	exists = exists && time.Date(d.Year, time.Month(d.Month), d.Day, 0, 0, 0, 0, time.UTC).Day() == d.Day
	if exists {
		want = seconds(d.Year, d.Month, d.Day, d.Hour, d.Minute, d.Second)
	}
	if got, ok := clock.Seconds(d); got != want || ok != exists {
		t.Fatalf("4.1: Seconds(%v) = %d, %v, want %d, %v", d, got, ok, want, exists)
	}
}

func TestSame(t *testing.T) {
	l := []float64{nan, math.Copysign(nan, -1), math.Float64frombits(0x7FF0000000000001), inf, -inf, 0, minusZero, 1, -1, 1.5}
	for _, a := range l {
		for _, b := range l {
			want := math.IsNaN(a) && math.IsNaN(b) || a == b
			if got := clock.Same(a, b); got != want {
				t.Errorf("4.2: Same(%v, %v) = %v", a, b, got)
			}
		}
	}
}

func TestUnix(t *testing.T) {
	for _, c := range []struct {
		t    float64
		want int
	}{
		{1.99, 1}, {-0.5, 0}, {inf, 1<<32 - 1}, {-inf, 0}, {nan, 0}, {minusZero, 0}, {1, 1}, {math.MaxFloat64, 1<<32 - 1},
		{1<<32 - 1.5, 1<<32 - 2}, {1<<32 - 1, 1<<32 - 1}, {1<<32 - 0.5, 1<<32 - 1}, {1 << 32, 1<<32 - 1},
	} {
		if got := clock.Unix(c.t); got != c.want {
			t.Errorf("4.2: Unix(%v) = %d, want %d", c.t, got, c.want)
		}
	}
	for _, v := range times() {
		want := 0
		if v > 0 {
			want = int(math.Floor(min(v, 1<<32-1)))
		}
		if got := clock.Unix(v); got != want {
			t.Errorf("4.2: Unix(%v) = %d, want %d", v, got, want)
		}
	}
}

func TestFromUnix(t *testing.T) {
	for _, v := range []int{7, 1, 2, 1 << 31, 1<<32 - 2, 1<<32 - 1} {
		if got := clock.FromUnix(v); got != float64(v) {
			t.Errorf("4.2: FromUnix(%d) = %v", v, got)
		}
	}
	for _, v := range []int{0, -1, 1 << 32, 1<<32 + 7, math.MinInt, math.MaxInt} {
		if got := clock.FromUnix(v); !math.IsNaN(got) {
			t.Errorf("4.2: FromUnix(%d) = %v, want NaN", v, got)
		}
	}
}

// dos is promise 4.3's definition of Dos.
func dos(t float64) int {
	if math.IsNaN(t) {
		return 0
	}
	first, last := seconds(1980, 1, 1, 0, 0, 0), seconds(2107, 12, 31, 23, 59, 58)
	d := time.Unix(int64(math.Floor(min(max(t, float64(first)), float64(last)))), 0).UTC()
	return ((d.Year()-1980)<<9|int(d.Month())<<5|d.Day())<<16 | (d.Hour()<<11 | d.Minute()<<5 | d.Second()/2)
}

func TestDos(t *testing.T) {
	for _, c := range []struct {
		t    float64
		want int
	}{
		{0, 0x210000}, {315532803.9, 0x210001}, {nan, 0}, {-inf, 0x210000}, {315532799.9, 0x210000}, {315532800, 0x210000},
		{315532801.9, 0x210000}, {315532802, 0x210001}, {minusZero, 0x210000}, {inf, 0xFF9FBF7D}, {4354819200, 0xFF9FBF7D},
		{4354819197.9, 0xFF9FBF7C}, {4354819199.9, 0xFF9FBF7D},
	} {
		if got := clock.Dos(c.t); got != c.want {
			t.Errorf("4.3: Dos(%v) = %x, want %x", c.t, got, c.want)
		}
	}
	for _, v := range times() {
		if got, want := clock.Dos(v), dos(v); got != want {
			t.Errorf("4.3: Dos(%v) = %x, want %x", v, got, want)
		}
	}
}

// fromDos is promise 4.3's definition of FromDos.
func fromDos(v int) float64 {
	if v < 0 || v > 1<<32-1 {
		return nan
	}
	day, clocked := v>>16, v&0xFFFF
	y, m, d := 1980+day>>9, day>>5&15, day&31
	hour, minute, half := clocked>>11, clocked>>5&63, clocked&31
	moment := time.Date(y, time.Month(m), d, hour, minute, 2*half, 0, time.UTC)
	if int(moment.Month()) != m || moment.Day() != d || hour > 23 || minute > 59 || half > 29 {
		return nan
	}
	return float64(moment.Unix())
}

func TestFromDos(t *testing.T) {
	if got := clock.FromDos(0x210001); got != 315532802 {
		t.Errorf("4.3: FromDos(210001) = %v", got)
	}
	l := []int{0, -1, 1 << 32, 1<<32 + 0x210001, 1<<32 - 1, 0xFF9FBF7D, 0xFF9FBF7E, math.MinInt, math.MaxInt, -1<<32 + 0x210001}
	for i := range 1 << 16 {
		l = append(l, i<<16, i<<16|0x5AC7, i<<16|0xBF7D, 0x210000|i, 0x78FC0000|i)
	}
	for _, v := range l {
		if got, want := clock.FromDos(v), fromDos(v); !same(got, want) {
			t.Fatalf("4.3: FromDos(%x) = %v, want %v", v, got, want)
		}
	}
}

// fine is promise 4.4's definition of Fine.
func fine(t float64) float64 {
	switch {
	case math.IsNaN(t):
		return 0
	case t < -top:
		return -top
	case t > top:
		return top
	}
	return floor(new(big.Rat).SetFloat64(t))
}

// floor returns the greatest multiple of 1/512 that isn't above r.
func floor(r *big.Rat) float64 {
	r = new(big.Rat).Mul(r, big.NewRat(512, 1))
	steps := new(big.Int).Div(r.Num(), r.Denom()) // Div rounds down: the denominator is above 0
	v, _ := new(big.Rat).SetFrac(steps, big.NewInt(512)).Float64()
	return v
}

func TestFine(t *testing.T) {
	for _, c := range [][2]float64{
		{-0.001, -1.0 / 512}, {1e300, top}, {-1e300, -top}, {minusZero, 0}, {nan, 0}, {inf, top}, {-inf, -top},
		{math.SmallestNonzeroFloat64, 0}, {-math.SmallestNonzeroFloat64, -1.0 / 512}, {0.001, 0}, {1, 1}, {-1, -1},
		{1.0 / 512, 1.0 / 512}, {1.999 / 512, 1.0 / 512}, {top, top}, {-top, -top},
	} {
		if got := clock.Fine(c[0]); !same(got, c[1]) {
			t.Errorf("4.4: Fine(%v) = %v, want %v", c[0], got, c[1])
		}
	}
	for _, v := range times() {
		got := clock.Fine(v)
		if !same(got, fine(v)) {
			t.Errorf("4.4: Fine(%v) = %v, want %v", v, got, fine(v))
		}
		if again := clock.Fine(got); !same(again, got) {
			t.Errorf("4.5: Fine(%v) = %v rounds down to %v once more", v, got, again)
		}
	}
}

// text is promise 4.4's definition of Text.
func text(t float64) string {
	s := new(big.Rat).SetFloat64(fine(t)).FloatString(20)
	return strings.TrimRight(strings.TrimRight(s, "0"), ".")
}

func TestText(t *testing.T) {
	for _, c := range []struct {
		t    float64
		want string
	}{
		{-1.5, "-1.5"}, {-0.001, "-0.001953125"}, {0, "0"}, {minusZero, "0"}, {nan, "0"}, {7, "7"}, {-10, "-10"}, {0.0625, "0.0625"},
		{inf, "8589934592"}, {-inf, "-8589934592"}, {top - 1.0/512, "8589934591.998046875"}, {1000.25, "1000.25"}, {0.001, "0"},
	} {
		if got := clock.Text(c.t); got != c.want {
			t.Errorf("4.4: Text(%v) = %q, want %q", c.t, got, c.want)
		}
	}
	for _, v := range times() {
		got := clock.Text(v)
		if got != text(v) {
			t.Errorf("4.4: Text(%v) = %q, want %q", v, got, text(v))
		}
		if back, code := clock.Parse(got); code != api.OK || !same(back, clock.Fine(v)) {
			t.Errorf("4.5: Parse(Text(%v)) = %v, %v, want %v", v, back, code, clock.Fine(v))
		}
	}
}

// parse is promise 4.4's definition of Parse.
func parse(s string) (float64, api.Errno) {
	whole, fraction, point := strings.Cut(strings.TrimPrefix(s, "-"), ".")
	if whole == "" || strings.Trim(whole+fraction, "0123456789") != "" || point && fraction == "" {
		return 0, api.ErrForm
	}
	r, _ := new(big.Rat).SetString(s)
	if new(big.Rat).Abs(r).Cmp(big.NewRat(top, 1)) > 0 {
		return 0, api.ErrRange
	}
	return floor(r), api.OK
}

// checkParse holds Parse of a text against promise 4.4.
func checkParse(t *testing.T, s string) {
	t.Helper()
	want, code := parse(s)
	if got, gotCode := clock.Parse(s); !same(got, want) || gotCode != code {
		t.Errorf("4.4: Parse(%.60q) = %v, %v, want %v, %v", s, got, gotCode, want, code)
	}
}

func TestParse(t *testing.T) {
	for _, c := range []struct {
		s    string
		want float64
		code api.Errno
	}{
		{"0007.5", 7.5, api.OK}, {"1.", 0, api.ErrForm}, {"8589934593", 0, api.ErrRange}, {"0.001", 0, api.OK},
		{"-0.001", -1.0 / 512, api.OK}, {"-0", 0, api.OK}, {"-0.0", 0, api.OK}, {"8589934592", top, api.OK}, {"-8589934592", -top, api.OK},
		{"8589934592.000", top, api.OK}, {"8589934592.0000000001", 0, api.ErrRange}, {"-8589934592.0000000001", 0, api.ErrRange},
		{"8589934592.001953125", 0, api.ErrRange}, {"-8589934592.001953125", 0, api.ErrRange},
		{"99999999999999999999.x", 0, api.ErrForm}, {"99999999999999999999", 0, api.ErrRange}, {"0.001953125", 1.0 / 512, api.OK},
		{"0.0019531249999999999999999999", 0, api.OK}, {"-0.0019531250000000000000000001", -2.0 / 512, api.OK},
	} {
		if got, code := clock.Parse(c.s); !same(got, c.want) || code != c.code {
			t.Errorf("4.4: Parse(%q) = %v, %v, want %v, %v", c.s, got, code, c.want, c.code)
		}
	}
	zeros := strings.Repeat("0", 100000)
	for _, s := range []string{
		zeros, zeros + "7.5", "-" + zeros, "0." + zeros, "0." + zeros + "1", "-0." + zeros + "1", "8589934592." + zeros,
		"8589934592." + zeros + "1", "-8589934592." + zeros + "1", "1" + zeros, "1" + zeros + ".x", "8589934591." + strings.Repeat("9", 100000),
		"-8589934591." + strings.Repeat("9", 100000), zeros + ".5" + zeros, "4611686018427387905", "18446744073709551617",
	} {
		checkParse(t, s)
	}
}

func TestParseForm(t *testing.T) {
	for _, s := range []string{
		"", "-", ".", "-.", ".5", "-.5", "1.", "-1.", "+1", "--1", "1-", " 1", "1 ", "1.5.", "1.5.2", "1..5", "1.-5", "1.+5", "1e5", "0x1",
		"1_000", "1,5", "NaN", "inf", "-inf", "1\x00", "1.5\n", "１", "1.٣", "99999999999999999999.", "-99999999999999999999.5x",
	} {
		if got, code := clock.Parse(s); got != 0 || code != api.ErrForm {
			t.Errorf("4.4: Parse(%q) = %v, %v, want ErrForm", s, got, code)
		}
	}
	for _, good := range []string{"-12.75", "8"} {
		for i := range len(good) + 1 {
			for c := range 256 {
				checkParse(t, good[:i]+string([]byte{byte(c)})+good[i:])
				checkParse(t, good[:i]+string([]byte{byte(c)})+good[min(i+1, len(good)):])
			}
		}
	}
}

func TestParseRoundsOnce(t *testing.T) {
	random := rand.New(rand.NewPCG(5, 6))
	digits := func(n int) string {
		l := make([]byte, n)
		for i := range l {
			l[i] = '0' + byte(random.IntN(10))
		}
		return string(l)
	}
	for range 20000 {
		step := big.NewRat(random.Int64N(top*512), 512).FloatString(9)
		sign := []string{"", "-"}[random.IntN(2)]
		checkParse(t, sign+step+digits(random.IntN(20)))
		checkParse(t, sign+step[:len(step)-1-random.IntN(9)]+digits(random.IntN(20)+1))
		checkParse(t, sign+digits(random.IntN(11)+1)+"."+digits(random.IntN(12)+1))
	}
}

func TestNoMinusZero(t *testing.T) {
	for _, v := range times() {
		parsed, _ := clock.Parse(clock.Text(v))
		for name, got := range map[string]float64{
			"Fine": clock.Fine(v), "Parse": parsed, "FromUnix": clock.FromUnix(clock.Unix(v)), "FromDos": clock.FromDos(clock.Dos(v)),
		} {
			if got == 0 && math.Signbit(got) {
				t.Errorf("4.5: %s answers -0 for %v", name, v)
			}
		}
	}
	for _, s := range []string{"-0", "-0.0", "-000.000000000000"} {
		if got, code := clock.Parse(s); math.Signbit(got) || code != api.OK {
			t.Errorf("4.5: Parse(%q) = %v, %v", s, got, code)
		}
	}
	if clock.Text(minusZero) != "0" {
		t.Errorf("4.5: Text(-0) = %q", clock.Text(minusZero))
	}
}
