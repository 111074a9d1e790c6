package effort_test

import (
	"cmp"
	"math"
	"math/rand/v2"
	"slices"
	"testing"

	"stevedore/api"
	"stevedore/effort"
)

var nan, inf, minusZero = math.NaN(), math.Inf(1), math.Copysign(0, -1)

// nans are numbers that are none, of both signs, quiet and signalling.
var nans = []float64{
	nan, math.Copysign(nan, -1), math.Float64frombits(0x7FF0000000000001), math.Float64frombits(0xFFFFFFFFFFFFFFFF),
}

// efforts returns efforts of all sizes and signs, those at which levels begin
// with their neighbours, and those that are no numbers.
func efforts() []float64 {
	random := rand.New(rand.NewPCG(15, 1))
	l := []float64{inf, math.MaxFloat64, math.SmallestNonzeroFloat64, 0x1p-1022}
	for level := range 13 {
		v := float64(level)
		l = append(l, math.Nextafter(v, -inf), v, math.Nextafter(v, inf), v+0.5, v+0.999)
	}
	// About these sizes an int of 8, 16, 32 or 64 bits ends.
	for _, bits := range []int{7, 8, 15, 16, 31, 32, 52, 53, 62, 63, 64, 65} {
		v := math.Ldexp(1, bits)
		l = append(l, v-1, math.Nextafter(v, 0), v, math.Nextafter(v, inf), v+1, v+5)
	}
	for range 300 {
		l = append(l, random.Float64()*10, math.Float64frombits(random.Uint64()))
	}
	for _, v := range l {
		l = append(l, -v)
	}
	return append(l, nans...)
}

// asked is the number that an effort counts as.
func asked(e float64) float64 {
	if math.IsNaN(e) {
		return 6
	}
	return e
}

// level is promise 15.1's definition of Level: how many of the levels from 1 on
// an effort reaches.
func level(e float64) int {
	n := 0
	for n < 9 && asked(e) >= float64(n+1) {
		n++
	}
	return n
}

// plans are the parameters that promise 15.2 lists.
var plans = map[int]api.Plan{
	0: {Store: true},
	1: {Chain: 1, Good: 8},
	2: {Chain: 4, Good: 8},
	3: {Chain: 8, Good: 16},
	4: {Chain: 8, Good: 16, Lazy: true},
	5: {Chain: 16, Good: 32, Lazy: true},
	6: {Chain: 32, Good: 64, Lazy: true},
	7: {Chain: 64, Good: 128, Lazy: true},
	8: {Chain: 256, Good: 258, Lazy: true},
	9: {Chain: 1024, Good: 258, Lazy: true},
}

func TestLevel(t *testing.T) {
	below1, below9 := math.Nextafter(1, 0), math.Nextafter(9, 0)
	for _, c := range []struct {
		e    float64
		want int
	}{
		{nan, 6}, {0.999, 0}, {8.999, 8}, {minusZero, 0}, {5.99, 5}, {-inf, 0}, {inf, 9}, {0, 0}, {below1, 0}, {1, 1}, {-1, 0},
		{-0.5, 0}, {-6, 0}, {-math.MaxFloat64, 0}, {math.SmallestNonzeroFloat64, 0}, {-math.SmallestNonzeroFloat64, 0},
		{1.999, 1}, {2, 2}, {6, 6}, {6.5, 6}, {7, 7}, {8, 8}, {below9, 8}, {9, 9}, {9.5, 9}, {10, 9}, {255, 9}, {256, 9}, {260, 9},
		{1 << 32, 9}, {1<<32 + 3, 9}, {1 << 63, 9}, {1 << 64, 9}, {-1 << 63, 0}, {-1 << 64, 0}, {math.MaxFloat64, 9},
	} {
		if got := effort.Level(c.e); got != c.want {
			t.Errorf("15.1: Level(%v) = %d, want %d", c.e, got, c.want)
		}
	}
	for _, e := range efforts() {
		if got, want := effort.Level(e), level(e); got != want {
			t.Errorf("15.1: Level(%v) = %d, want %d", e, got, want)
		}
	}
}

func TestPlan(t *testing.T) {
	for n, want := range plans {
		for _, e := range []float64{float64(n), float64(n) + 0.5, math.Nextafter(float64(n)+1, 0)} {
			if got := effort.Plan(e); got != want {
				t.Errorf("15.2: Plan(%v) = %+v, want %+v", e, got, want)
			}
		}
	}
	for _, c := range []struct {
		e    float64
		want int
	}{
		{inf, 9}, {10, 9}, {1 << 32, 9}, {1 << 64, 9}, {math.MaxFloat64, 9}, {-inf, 0}, {minusZero, 0}, {-1, 0}, {-1 << 64, 0}, {0.999, 0}, {nan, 6},
	} {
		if got := effort.Plan(c.e); got != plans[c.want] {
			t.Errorf("15.2: Plan(%v) = %+v, want %+v", c.e, got, plans[c.want])
		}
	}
	for _, e := range efforts() {
		if got, want := effort.Plan(e), plans[level(e)]; got != want {
			t.Errorf("15.2: Plan(%v) = %+v, want %+v", e, got, want)
		}
	}
}

// TestPlanIsACopy is of a caller who changes what it got.
func TestPlanIsACopy(t *testing.T) {
	for n, want := range plans {
		p := effort.Plan(float64(n))
		p.Store, p.Chain, p.Lazy, p.Good = !p.Store, -1, !p.Lazy, -1
		if got := effort.Plan(float64(n)); got != want {
			t.Errorf("15.2: Plan(%d) = %+v after a change of another one, want %+v", n, got, want)
		}
	}
}

func TestLess(t *testing.T) {
	above6, below6 := math.Nextafter(6, 7), math.Nextafter(6, 5)
	for _, c := range []struct {
		a, b float64
		want bool
	}{
		{6, nan, false}, {nan, 6, false}, {5.5, nan, true}, {nan, 5.5, false}, {nan, nan, false}, {below6, nan, true}, {nan, below6, false},
		{nan, above6, true}, {above6, nan, false}, {-inf, nan, true}, {nan, -inf, false}, {nan, inf, true}, {inf, nan, false},
		{minusZero, nan, true}, {nan, minusZero, false}, {minusZero, 0, false}, {0, minusZero, false}, {minusZero, minusZero, false},
		{-math.SmallestNonzeroFloat64, minusZero, true}, {minusZero, math.SmallestNonzeroFloat64, true}, {-1, minusZero, true},
		{inf, inf, false}, {-inf, -inf, false}, {-inf, inf, true}, {inf, -inf, false}, {math.MaxFloat64, inf, true},
		{-inf, -math.MaxFloat64, true}, {5.2, 5.3, true}, {5.3, 5.2, false}, {5, 5, false}, {10, 11, true}, {-3, -2, true}, {-2, -3, false},
		{0.1, 0.2, true}, {1 << 64, 1 << 65, true},
	} {
		if got := effort.Less(c.a, c.b); got != c.want {
			t.Errorf("15.3: Less(%v, %v) = %v", c.a, c.b, got)
		}
	}
	for _, a := range efforts() {
		for _, b := range efforts() {
			want := cmp.Compare(asked(a), asked(b)) < 0
			if got := effort.Less(a, b); got != want {
				t.Fatalf("15.3: Less(%v, %v) = %v", a, b, got)
			}
		}
	}
}

// TestLessEffort is of all pairs of efforts, and of their order.
func TestLessEffort(t *testing.T) {
	l := efforts()
	for _, a := range l {
		for _, b := range l {
			low, high := effort.Level(a), effort.Level(b)
			if effort.Less(a, b) && low > high {
				t.Fatalf("15.4: %v is less than %v, with the levels %d and %d", a, b, low, high)
			}
			if !effort.Less(a, b) && !effort.Less(b, a) && low != high {
				t.Fatalf("15.4: neither of %v and %v is less, with the levels %d and %d", a, b, low, high)
			}
		}
	}
	slices.SortFunc(l, func(a, b float64) int {
		switch {
		case effort.Less(a, b):
			return -1
		case effort.Less(b, a):
			return 1
		}
		return 0
	})
	levels := make([]int, len(l))
	for i, e := range l {
		levels[i] = effort.Level(e)
	}
	if !slices.IsSorted(levels) {
		t.Fatalf("15.4: efforts in order of Less have the levels %v", levels)
	}
}
