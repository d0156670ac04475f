package metric_test

import (
	"math"
	"math/big"
	"math/rand/v2"
	"slices"
	"testing"

	"fieldfare/api"
	"fieldfare/metric"
	"fieldfare/vect"
)

const (
	least    = math.MinInt32
	greatest = math.MaxInt32
)

// strangers are numbers that are no metric.
var strangers = []int{0, 3, 4, -1, -2, 1 << 8, 1<<8 + 1, 1<<8 + 2, 1 << 32, 1<<32 + 1, 1<<32 + 2, -1<<32 + 1, math.MaxInt, math.MinInt, math.MinInt + 1, math.MinInt + 2}

// filled gives a vector of count times n.
func filled(count int, n int32) api.Vec {
	return slices.Repeat(api.Vec{n}, count)
}

// wantScore holds a score against want, and the one of both the other way round too.
func wantScore(t *testing.T, m int, a, b api.Vec, want int64) {
	t.Helper()
	if got := metric.Score(m, a, b); got != want {
		t.Errorf("P9.1: Score(%d, %v, %v): %d, not %d", m, a, b, got, want)
	}
	if got := metric.Score(m, b, a); got != want {
		t.Errorf("P9.1: Score(%d, %v, %v): %d, not %d", m, b, a, got, want)
	}
}

// exact gives a score as it is beyond all bits.
func exact(m int, a, b api.Vec) *big.Int {
	sum := new(big.Int)
	for k := range min(len(a), len(b)) {
		x, y := big.NewInt(int64(a[k])), big.NewInt(int64(b[k]))
		switch m {
		case api.L2:
			x.Sub(x, y)
			sum.Add(sum, x.Mul(x, x))
		case api.Dot:
			sum.Sub(sum, x.Mul(x, y))
		}
	}
	return sum
}

// wrapped gives the 64 bits that are left of a score.
func wrapped(n *big.Int) int64 {
	all := new(big.Int).Lsh(big.NewInt(1), 64)
	return int64(new(big.Int).Mod(n, all).Uint64())
}

func TestKnown(t *testing.T) {
	if !metric.Known(api.L2) || !metric.Known(api.Dot) {
		t.Error("P9.1: Known of L2, of Dot")
	}
	for _, m := range strangers {
		if metric.Known(m) {
			t.Errorf("P9.1: Known(%d)", m)
		}
	}
}

func TestScoreByL2(t *testing.T) {
	for _, x := range []struct {
		a, b api.Vec
		want int64
	}{
		{api.Vec{0}, api.Vec{0}, 0},
		{api.Vec{5}, api.Vec{5}, 0},
		{api.Vec{1}, api.Vec{4}, 9},
		{api.Vec{-1}, api.Vec{4}, 25},
		{api.Vec{-1}, api.Vec{-4}, 9},
		{api.Vec{1, 2}, api.Vec{4, 6}, 25},
		{api.Vec{4, 2}, api.Vec{1, 6}, 25},
		{api.Vec{1, 2, 3, 4, 5, 6, 7, 8}, api.Vec{0, 0, 0, 0, 0, 0, 0, 0}, 204},
		{api.Vec{1, 2, 3, 4, 5, 6, 7, 8}, api.Vec{8, 7, 6, 5, 4, 3, 2, 1}, 168},
	} {
		wantScore(t, api.L2, x.a, x.b, x.want)
	}
}

func TestScoreByDot(t *testing.T) {
	for _, x := range []struct {
		a, b api.Vec
		want int64
	}{
		{api.Vec{0}, api.Vec{7}, 0},
		{api.Vec{1}, api.Vec{4}, -4},
		{api.Vec{-1}, api.Vec{4}, 4},
		{api.Vec{-1}, api.Vec{-4}, -4},
		{api.Vec{1, 2}, api.Vec{4, 6}, -16},
		{api.Vec{-1, 2}, api.Vec{4, 1}, 2},
		{api.Vec{1, 2, 3, 4, 5, 6, 7, 8}, api.Vec{1, 2, 3, 4, 5, 6, 7, 8}, -204},
		{api.Vec{1, 2, 3, 4, 5, 6, 7, 8}, api.Vec{8, 7, 6, 5, 4, 3, 2, 1}, -120},
	} {
		wantScore(t, api.Dot, x.a, x.b, x.want)
	}
}

func TestScoreOfUnlikeLengths(t *testing.T) {
	long := api.Vec{1, 2, 3, 4, 5, 6, 7, 8, 9, 10}
	l2 := []int64{0, 81, 145, 194, 230, 255, 271, 280, 284, 285, 285}
	dot := []int64{0, -10, -30, -60, -100, -150, -210, -280, -360, -450, -550}
	for count := range l2 {
		wantScore(t, api.L2, long, filled(count, 10), l2[count])
		wantScore(t, api.Dot, long, filled(count, 10), dot[count])
	}
	wantScore(t, api.L2, filled(1000, 3), filled(2000, 1), 4000)
	wantScore(t, api.Dot, filled(1000, 3), filled(2000, 1), -3000)
}

func TestScoreOfNoNumbers(t *testing.T) {
	for _, m := range append([]int{api.L2, api.Dot}, strangers...) {
		for _, a := range []api.Vec{nil, {}} {
			for _, b := range []api.Vec{nil, {}, {0}, {9}, filled(8, 1048576), filled(9, least)} {
				wantScore(t, m, a, b, 0)
			}
		}
	}
}

func TestScoreLooksAtNoSpareRoom(t *testing.T) {
	a, b := api.Vec{1, 2, 100}, api.Vec{4, 6, 7}
	wantScore(t, api.L2, a[:2], b, 25)
	wantScore(t, api.Dot, a[:2], b, -16)
	wantScore(t, api.L2, a[:2], b[:1], 9)
	wantScore(t, api.Dot, a[:0], b, 0)
}

func TestScoreOfAnotherMetric(t *testing.T) {
	for _, m := range strangers {
		wantScore(t, m, api.Vec{1, 2}, api.Vec{4, 6}, 0)
		wantScore(t, m, filled(8, least), filled(8, greatest), 0)
		wantScore(t, m, api.Vec{1}, filled(9, 3), 0)
	}
}

func TestScoreAtMaxCoord(t *testing.T) {
	for count := 1; count <= api.MaxDim; count++ {
		top, low := filled(count, 1048576), filled(count, -1048576)
		n := int64(count)
		wantScore(t, api.L2, top, low, n*4398046511104)
		wantScore(t, api.L2, top, top, 0)
		wantScore(t, api.L2, low, low, 0)
		wantScore(t, api.L2, top, filled(count, 0), n*1099511627776)
		wantScore(t, api.Dot, top, low, n*1099511627776)
		wantScore(t, api.Dot, top, top, -n*1099511627776)
		wantScore(t, api.Dot, low, low, -n*1099511627776)
	}
}

func TestScoreWraps(t *testing.T) {
	for _, x := range []struct {
		m    int
		a, b api.Vec
		want int64
	}{
		// A difference has up to 33 bits, its square up to 64, one more than a score has.
		{api.L2, api.Vec{greatest}, api.Vec{least}, 1 - 1<<33},
		{api.L2, api.Vec{greatest}, api.Vec{0}, 1<<62 - 1<<32 + 1},
		{api.L2, api.Vec{least}, api.Vec{0}, 1 << 62},
		{api.L2, api.Vec{least, least}, api.Vec{0, 0}, math.MinInt64},
		{api.L2, api.Vec{least, least, least}, filled(3, 0), -1 << 62},
		{api.L2, filled(4, least), filled(4, 0), 0},
		{api.L2, api.Vec{greatest, greatest}, api.Vec{least, least}, 2 - 1<<34},
		{api.Dot, api.Vec{least}, api.Vec{least}, -1 << 62},
		{api.Dot, api.Vec{least}, api.Vec{greatest}, 1<<62 - 1<<31},
		{api.Dot, api.Vec{least, least}, api.Vec{least, least}, math.MinInt64},
		{api.Dot, api.Vec{least, least, 1}, api.Vec{least, least, 1}, math.MaxInt64},
		{api.Dot, filled(3, least), filled(3, least), 1 << 62},
		{api.Dot, filled(4, least), filled(4, least), 0},
		{api.Dot, filled(3, least), filled(3, greatest), -1<<62 - 3<<31},
	} {
		wantScore(t, x.m, x.a, x.b, x.want)
	}
}

// TestScoreOfDraws holds scores against sums that have no end of bits.
func TestScoreOfDraws(t *testing.T) {
	draw := rand.New(rand.NewPCG(9, 1))
	for range 20000 {
		a, b := make(api.Vec, draw.IntN(12)), make(api.Vec, draw.IntN(12))
		shift := draw.IntN(32)
		for _, v := range []api.Vec{a, b} {
			for k := range v {
				v[k] = int32(draw.Uint32()) >> shift
			}
		}
		for m := -1; m <= 4; m++ {
			sum := exact(m, a, b)
			wantScore(t, m, a, b, wrapped(sum))
			if vect.May(a, len(a)) && vect.May(b, len(b)) && !sum.IsInt64() {
				t.Fatalf("P9.1: the sum of %v, %v is beyond 64 bits", a, b)
			}
		}
	}
}

func TestScoreChangesNoArgument(t *testing.T) {
	a, b := api.Vec{1, 2, 3, 4}, api.Vec{5, 6, 7}
	for m := range 4 {
		metric.Score(m, a[:2], b)
		metric.Score(m, b, a[:2])
		metric.Score(m, a[:3], b[:1])
	}
	if !slices.Equal(a, api.Vec{1, 2, 3, 4}) || !slices.Equal(b, api.Vec{5, 6, 7}) {
		t.Errorf("P0.3: %v, %v", a, b)
	}
}

// TestLess goes through hits in their order, each against each and against itself.
func TestLess(t *testing.T) {
	hits := []api.Hit{
		{Id: 9, Score: math.MinInt64},
		{Id: 7, Score: math.MinInt64 + 1},
		{Id: 8, Score: math.MinInt64 + 1},
		{Id: 1000, Score: -1 << 32},
		{Id: math.MinInt, Score: -3},
		{Id: -1, Score: -3},
		{Id: 0, Score: -3},
		{Id: 5, Score: -3},
		{Id: math.MaxInt, Score: -3},
		{Id: 6, Score: -2},
		{Id: 0, Score: 0},
		{Id: 1, Score: 0},
		{Id: 1 << 32, Score: 0},
		{Id: -9, Score: 7},
		{Id: 0, Score: 1 << 32},
		{Id: 1, Score: 1 << 32},
		{Id: -5, Score: math.MaxInt64},
		{Id: 5, Score: math.MaxInt64},
	}
	for i, a := range hits {
		for k, b := range hits {
			if got := metric.Less(a, b); got != (i < k) {
				t.Errorf("P9.1: Less(%v, %v): %v", a, b, got)
			}
		}
	}
}

func TestLessOfHitsThatAreAlike(t *testing.T) {
	for _, h := range []api.Hit{{}, {Id: 3}, {Score: 3}, {Id: math.MinInt, Score: math.MinInt64}, {Id: math.MaxInt, Score: math.MaxInt64}} {
		if metric.Less(h, h) {
			t.Errorf("P9.1: Less(%v, %v)", h, h)
		}
	}
}
