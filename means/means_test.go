package means_test

import (
	"math"
	"math/big"
	"math/rand/v2"
	"slices"
	"testing"

	"fieldfare/api"
	"fieldfare/means"
	"fieldfare/metric"
)

const (
	least    = math.MinInt32
	greatest = math.MaxInt32
	low      = -1048576 // the least number of a vector
	top      = 1048576  // the greatest
)

// ones gives vectors of one number each.
func ones(ns ...int32) []api.Vec {
	vs := []api.Vec{}
	for _, n := range ns {
		vs = append(vs, api.Vec{n})
	}
	return vs
}

// row gives the vectors 0, 1, 2 and so on, so many.
func row(count int) []api.Vec {
	vs := []api.Vec{}
	for n := range count {
		vs = append(vs, api.Vec{int32(n)})
	}
	return vs
}

// filled gives a vector of count times n.
func filled(count int, n int32) api.Vec {
	return slices.Repeat(api.Vec{n}, count)
}

// like tells whether both lists have the same vectors.
func like(a, b []api.Vec) bool {
	return slices.EqualFunc(a, b, func(v, w api.Vec) bool { return slices.Equal(v, w) })
}

// cloned gives the same vectors in memory of their own.
func cloned(vs []api.Vec) []api.Vec {
	all := []api.Vec{}
	for _, v := range vs {
		all = append(all, slices.Clone(v))
	}
	return all
}

// wantMiddles holds Middles against want.
func wantMiddles(t *testing.T, n, rounds int, vs, want []api.Vec) {
	t.Helper()
	if got := means.Middles(n, rounds, vs...); !like(got, want) {
		t.Errorf("P12.1: Middles(%d, %d) of %v: %v, not %v", n, rounds, vs[:min(len(vs), 30)], got, want)
	}
}

// wantNearest holds Nearest against want.
func wantNearest(t *testing.T, ms []api.Vec, v api.Vec, want int) {
	t.Helper()
	if got := means.Nearest(ms, v); got != want {
		t.Errorf("P12.1: Nearest(%v, %v): %d, not %d", ms, v, got, want)
	}
}

// wantOrder holds Order, and Nearest with it, against want.
func wantOrder(t *testing.T, ms []api.Vec, v api.Vec, want ...int) {
	t.Helper()
	if got := means.Order(ms, v); !slices.Equal(got, want) {
		t.Errorf("P12.1: Order(%v, %v): %v, not %v", ms, v, got, want)
	}
	wantNearest(t, ms, v, want[0])
}

func TestNearestAndOrder(t *testing.T) {
	line := ones(0, 10, 4, -20)
	wantOrder(t, line, api.Vec{0}, 0, 2, 1, 3)
	wantOrder(t, line, api.Vec{3}, 2, 0, 1, 3)
	wantOrder(t, line, api.Vec{8}, 1, 2, 0, 3)
	wantOrder(t, line, api.Vec{-11}, 3, 0, 2, 1)
	wantOrder(t, line, api.Vec{top}, 1, 2, 0, 3)
	wantOrder(t, line, api.Vec{low}, 3, 0, 2, 1)
	plane := []api.Vec{{0, 0}, {3, 4}, {6, 0}, {-1, -1}}
	wantOrder(t, plane, api.Vec{3, 3}, 1, 0, 2, 3)
	wantOrder(t, plane, api.Vec{5, 1}, 2, 1, 0, 3)
	wantOrder(t, plane, api.Vec{-2, 0}, 3, 0, 1, 2)
	wantOrder(t, ones(-7), api.Vec{99}, 0)
}

// TestItIsL2 has vectors that other ways to hold them against each other put in another order.
func TestItIsL2(t *testing.T) {
	// By their products {9, 9} is the best one; by the sum of what they are apart {0, 4} is nearer than {3, 2}.
	wantOrder(t, []api.Vec{{9, 9}, {0, 4}, {3, 2}, {1, 1}}, api.Vec{0, 0}, 3, 2, 1, 0)
	wantOrder(t, []api.Vec{{9, 9}, {2, 2}}, api.Vec{1, 1}, 1, 0)
	wantOrder(t, []api.Vec{{-1}, {5}}, api.Vec{1}, 0, 1)
	// By the greatest of what they are apart {4, 4, 4} is the nearest one.
	wantOrder(t, []api.Vec{{4, 4, 4}, {5, 0, 0}}, api.Vec{0, 0, 0}, 1, 0)
}

func TestNearestOfNone(t *testing.T) {
	for _, v := range []api.Vec{nil, {}, {1}, {low, top}, filled(9, greatest)} {
		for _, ms := range [][]api.Vec{nil, {}, ones(1, 2)[:0]} {
			wantNearest(t, ms, v, -1)
			if got := means.Order(ms, v); len(got) != 0 {
				t.Errorf("P12.1: Order of none: %v", got)
			}
		}
	}
}

func TestAlikeScores(t *testing.T) {
	// Middles that are alike, and middles on both sides, as far.
	wantOrder(t, ones(5, 5, 5), api.Vec{9}, 0, 1, 2)
	wantOrder(t, ones(10, 0), api.Vec{5}, 0, 1)
	wantOrder(t, ones(0, 10), api.Vec{5}, 0, 1)
	wantOrder(t, ones(9, 10, 0, 4, 6), api.Vec{5}, 3, 4, 0, 1, 2)
	wantOrder(t, ones(0, 10, 4, 10), api.Vec{7}, 1, 2, 3, 0)
	wantOrder(t, []api.Vec{{9, 9}, {0, 5}, {5, 0}, {-3, 4}, {4, -3}, {0, -5}}, api.Vec{0, 0}, 1, 2, 3, 4, 5, 0)
}

// TestOrderOfManyAlike has so many alike ones that a sort which swaps them would show.
func TestOrderOfManyAlike(t *testing.T) {
	for _, kinds := range []int{1, 2, 3, 7} {
		for count := kinds; count <= 300; count += 13 {
			ms, want := []api.Vec{}, []int{}
			for place := range count {
				ms = append(ms, api.Vec{int32(place % kinds)})
			}
			for kind := range kinds {
				for place := kinds - 1 - kind; place < count; place += kinds {
					want = append(want, place)
				}
			}
			wantOrder(t, ms, api.Vec{100}, want...)
		}
	}
}

// TestNearOfNumbersAtTheEdge has Scores beyond 32 bits, which differ by little.
func TestNearOfNumbersAtTheEdge(t *testing.T) {
	for dim := 1; dim <= 8; dim++ {
		ends := []api.Vec{filled(dim, top), filled(dim, low), filled(dim, 0), filled(dim, top-1), filled(dim, low+1)}
		wantOrder(t, ends, filled(dim, low), 1, 4, 2, 3, 0)
		wantOrder(t, ends, filled(dim, top), 0, 3, 2, 4, 1)
		wantOrder(t, ends, filled(dim, 0), 2, 3, 4, 0, 1)
		wantOrder(t, ends, filled(dim, 1), 2, 3, 0, 4, 1)
	}
	// Apart by 2^16 and by 2^17: the squares have no bit among the lowest 32, nor has the square of 0.
	wantOrder(t, ones(1<<17, 1<<16, 0), api.Vec{0}, 2, 1, 0)
	wantOrder(t, ones(low, top, 1), api.Vec{0}, 2, 0, 1)
}

// TestNearOfAnotherLength goes by what Score tells of unlike lengths: the numbers that both have.
func TestNearOfAnotherLength(t *testing.T) {
	ms := []api.Vec{{9}, {1, 50}, {1, 2, 3}, {4, 2}}
	wantOrder(t, ms, api.Vec{1}, 1, 2, 3, 0)
	wantOrder(t, ms, api.Vec{1, 2}, 2, 3, 0, 1)
	wantOrder(t, ms, api.Vec{1, 2, 4, 99}, 2, 3, 0, 1)
	wantOrder(t, ms, nil, 0, 1, 2, 3)
	wantOrder(t, ms, api.Vec{}, 0, 1, 2, 3)
	wantOrder(t, []api.Vec{{7}, nil, {5}, {}}, api.Vec{5, 6}, 1, 2, 3, 0)
	wantOrder(t, []api.Vec{nil, nil}, nil, 0, 1)
	wantOrder(t, []api.Vec{filled(30, 1), filled(3000, 0)}, filled(2000, 0), 1, 0)
	// What is behind a vector's end is none of its numbers.
	long := api.Vec{3, 9, 9}
	wantOrder(t, []api.Vec{{4, 9}, {3, 0}}, long[:1], 1, 0)
	wantOrder(t, []api.Vec{{4, 0}, long[:1]}, api.Vec{3, 0}, 1, 0)
}

// TestNearOfAnyNumbers goes by what Score tells, also where its sums wrap.
func TestNearOfAnyNumbers(t *testing.T) {
	draw := rand.New(rand.NewPCG(12, 1))
	for range 5000 {
		ms := make([]api.Vec, 1+draw.IntN(40))
		for k := range ms {
			ms[k] = anyVector(draw, draw.IntN(4))
		}
		v := anyVector(draw, draw.IntN(4))
		scores, want := []int64{}, []int{}
		for place, m := range ms {
			scores = append(scores, metric.Score(api.L2, m, v))
			at := len(want)
			for at > 0 && scores[want[at-1]] > scores[place] {
				at--
			}
			want = slices.Insert(want, at, place)
		}
		wantOrder(t, ms, v, want...)
		if t.Failed() {
			t.FailNow()
		}
	}
}

// anyVector draws one of any numbers of 32 bits, small ones and those at the ends as likely as others.
func anyVector(draw *rand.Rand, count int) api.Vec {
	v := make(api.Vec, count)
	for k := range v {
		switch draw.IntN(8) {
		case 0:
			v[k] = least + int32(draw.IntN(3))
		case 1:
			v[k] = greatest - int32(draw.IntN(3))
		default:
			v[k] = int32(draw.Uint32()) >> draw.IntN(32)
		}
	}
	return v
}

func TestNKeptToItsEnds(t *testing.T) {
	all := row(20)
	for _, x := range []struct{ n, count int }{
		{1, 1}, {2, 2}, {3, 3}, {8, 8}, {15, 15}, {16, 16},
		{0, 1}, {-1, 1}, {-2, 1}, {-16, 1}, {math.MinInt32, 1}, {math.MinInt, 1}, {math.MinInt + 1, 1}, {-1 << 32, 1},
		{17, 16}, {18, 16}, {20, 16}, {21, 16}, {1000, 16}, {1 << 32, 16}, {1<<32 + 2, 16}, {math.MaxInt, 16},
	} {
		wantMiddles(t, x.n, 0, all, all[:x.count])
		for rounds := range 4 {
			if got := means.Middles(x.n, rounds, all...); len(got) != x.count {
				t.Errorf("P12.1: Middles(%d, %d): %d of them, not %d", x.n, rounds, len(got), x.count)
			}
		}
	}
	for _, n := range []int{1, 0, -1, math.MinInt} {
		wantMiddles(t, n, 1, ones(1, 2, 6), ones(3))
		wantMiddles(t, n, 10, ones(1, 2, 6), ones(3))
	}
}

// TestRoundsKeptToTheirEnds has vectors with which each of twelve rounds moves the middles.
func TestRoundsKeptToTheirEnds(t *testing.T) {
	all := row(5000)
	steps := []int32{0, 0, 625, 937, 1093, 1171, 1210, 1230, 1240, 1245, 1247}
	others := []int32{1, 2500, 3125, 3437, 3593, 3671, 3710, 3730, 3740, 3745, 3747}
	for rounds := range 11 {
		wantMiddles(t, 2, rounds, all, ones(steps[rounds], others[rounds]))
	}
	for _, rounds := range []int{11, 12, 13, 100, 1 << 32, 1<<32 + 3, math.MaxInt} {
		wantMiddles(t, 2, rounds, all, ones(1247, 3747))
	}
	for _, rounds := range []int{-1, -2, -10, -11, -1<<32 + 1, math.MinInt, math.MinInt + 1} {
		wantMiddles(t, 2, rounds, all, ones(0, 1))
	}
}

func TestMiddlesOfNone(t *testing.T) {
	for _, n := range []int{-1, 0, 1, 4, 16, 17, math.MaxInt, math.MinInt} {
		for _, rounds := range []int{-1, 0, 1, 10, 11, math.MaxInt, math.MinInt} {
			if got := means.Middles(n, rounds); got != nil {
				t.Errorf("P12.1: Middles(%d, %d) of none: %v", n, rounds, got)
			}
			if got := means.Middles(n, rounds, []api.Vec{}...); got != nil {
				t.Errorf("P12.1: Middles(%d, %d) of an empty list: %v", n, rounds, got)
			}
		}
	}
}

func TestTheFirstThatAreUnlike(t *testing.T) {
	for _, x := range []struct {
		n        int
		vs, want []api.Vec
	}{
		{2, ones(5, 5, 7, 9), ones(5, 7)},
		{2, ones(5, 7, 5, 9), ones(5, 7)},
		{3, ones(5, 7, 5, 7, 5, 9, 1), ones(5, 7, 9)},
		{3, ones(9, 5, 7, 1), ones(9, 5, 7)},
		{4, ones(1, 1, 1, 2, 2, -1, -1, 1, 3, 4), ones(1, 2, -1, 3)},
		{3, []api.Vec{{1, 2}, {1, 3}, {1, 2}, {2, 2}, {0, 0}}, []api.Vec{{1, 2}, {1, 3}, {2, 2}}},
		{3, []api.Vec{{1, 2}, {2, 1}, {1, 2}, {2, 1}, {3, 0}}, []api.Vec{{1, 2}, {2, 1}, {3, 0}}},
		{2, ones(low, low, top, 0), ones(low, top)},
	} {
		wantMiddles(t, x.n, 0, x.vs, x.want)
	}
	// Vectors that differ at one place alone, whichever it is.
	for dim := 1; dim <= 8; dim++ {
		vs := []api.Vec{filled(dim, 3)}
		for k := range dim {
			v := filled(dim, 3)
			v[k] = 4
			vs = append(vs, filled(dim, 3), v, slices.Clone(v))
		}
		got := means.Middles(16, 0, vs...)
		if len(got) != dim+1 {
			t.Errorf("P12.1: %v are the unlike ones of %v", got, vs)
		}
	}
}

func TestFewerThanN(t *testing.T) {
	for n := 3; n <= 17; n++ {
		wantMiddles(t, n, 0, ones(4, 4, 4), ones(4))
		wantMiddles(t, n, 5, ones(4, 4, 4), ones(4))
		wantMiddles(t, n, 0, ones(4, 9, 4, 9, 9), ones(4, 9))
		wantMiddles(t, n, 10, ones(4, 9, 4, 9, 9), ones(4, 9))
		wantMiddles(t, n, 3, []api.Vec{{7, -7}}, []api.Vec{{7, -7}})
	}
	wantMiddles(t, 16, 10, row(15), row(15))
	wantMiddles(t, 16, 10, slices.Concat(row(15), row(15)), row(15))
}

func TestRounds(t *testing.T) {
	for _, x := range []struct {
		n, rounds int
		vs, want  []api.Vec
	}{
		{2, 1, ones(0, 10, 2, 12), ones(1, 11)},
		{2, 1, ones(0, 1, 10, 12), ones(0, 7)},
		{2, 2, ones(0, 1, 10, 12), ones(0, 11)},
		{2, 10, ones(0, 1, 10, 12), ones(0, 11)},
		{3, 3, ones(0, 100, 50, 49, 51, 52), ones(0, 100, 50)},
		{2, 9, []api.Vec{{0, 0}, {4, 4}, {0, 1}, {5, 5}, {4, 5}}, []api.Vec{{0, 0}, {4, 4}}},
		// Each of vs counts, also those that are alike.
		{1, 1, ones(0, 0, 0, 8), ones(2)},
		{1, 1, ones(0, 8, 8, 8), ones(6)},
		{2, 1, ones(0, 100, 4, 4, 4, 90), ones(3, 95)},
		// Each place for itself.
		{1, 1, []api.Vec{{1, 10, -5}, {3, 20, -5}, {5, 60, -8}}, []api.Vec{{3, 30, -6}}},
	} {
		wantMiddles(t, x.n, x.rounds, x.vs, x.want)
	}
}

func TestSumsThatDoNotComeOutWhole(t *testing.T) {
	for _, x := range []struct {
		vs   []api.Vec
		want int32
	}{
		{ones(3, 4), 3}, {ones(1, 0, 0), 0}, {ones(1, 1, 0), 0}, {ones(2, 3, 3), 2},
		{ones(-1, 0), -1}, {ones(-1, 0, 0), -1}, {ones(-1, -1, 0), -1}, {ones(-3, -4), -4},
		{ones(-7, 2), -3}, {ones(-3, 0, 0), -1}, {ones(-4, 0, 0), -2}, {ones(-5, 0, 0), -2}, {ones(-6, 0, 0), -2},
		{ones(-2, 0), -1}, {ones(-4, 2), -1}, {ones(-5, 5), 0}, {ones(-5, 6), 0}, {ones(-6, 5), -1},
		{ones(-1, 0, 0, 0, 0, 0, 0, 0, 0, 0), -1}, {ones(-10, 0, 0, 0, 0, 0, 0, 0, 0, 0), -1}, {ones(-11, 0, 0, 0, 0, 0, 0, 0, 0, 0), -2},
		{ones(low, low+1), low}, {ones(low, low, low+1), low}, {ones(low, low+1, low+1), low},
		{ones(top, top-1), top - 1}, {ones(low, top-1), -1}, {ones(low+1, top), 0}, {ones(low, top), 0},
	} {
		wantMiddles(t, 1, 1, x.vs, ones(x.want))
		wantMiddles(t, 1, 10, x.vs, ones(x.want))
	}
	wantMiddles(t, 1, 1, []api.Vec{{-1, 1, -2}, {0, 0, 0}}, []api.Vec{{-1, 0, -1}})
}

func TestAMiddleThatNoneGoesTo(t *testing.T) {
	// In the first round each middle has at least the vector that it was; in the second one -1 has none, and stays.
	vs := ones(3, -3, -2, 0, 1, 1)
	for rounds := 1; rounds <= 11; rounds++ {
		wantMiddles(t, 3, rounds, vs, ones(1, -3, -1))
	}
	// The third middle has none in the second and in the third round, and one again behind these.
	vs = []api.Vec{{2, 3}, {-3, 2}, {1, 1}, {2, 2}, {-3, -3}, {-2, -3}}
	wantMiddles(t, 3, 1, vs, []api.Vec{{2, 2}, {-3, -1}, {-1, -1}})
	wantMiddles(t, 3, 2, vs, []api.Vec{{1, 2}, {-3, -2}, {-1, -1}})
	wantMiddles(t, 3, 3, vs, []api.Vec{{1, 2}, {-3, -3}, {-3, 2}})
}

func TestAMiddleAsNearAsAnother(t *testing.T) {
	wantMiddles(t, 2, 1, ones(0, 10, 5), ones(2, 10))
	wantMiddles(t, 2, 1, ones(10, 0, 5), ones(7, 0))
	wantMiddles(t, 3, 1, ones(0, 20, 10, 5, 15), ones(2, 17, 10))
	wantMiddles(t, 2, 1, []api.Vec{{0, 4}, {4, 0}, {2, 2}, {9, 9}}, []api.Vec{{3, 5}, {4, 0}})
	// In the second round, too, 3 is as near to the first middle, 2, as to the other one, 4.
	wantMiddles(t, 2, 1, ones(1, 5, 3, 4, 3), ones(2, 4))
	wantMiddles(t, 2, 2, ones(1, 5, 3, 4, 3), ones(2, 4))
	wantMiddles(t, 2, 2, ones(5, 1, 3, 4, 3), ones(3, 1))
}

func TestMiddlesOfNumbersAtTheEdge(t *testing.T) {
	for dim := 1; dim <= 8; dim++ {
		ends := []api.Vec{filled(dim, low), filled(dim, top)}
		for rounds := range 11 {
			wantMiddles(t, 2, rounds, ends, ends)
		}
		// The sums are beyond 32 bits.
		vs := slices.Concat(ends, slices.Repeat(ends, 5000))
		wantMiddles(t, 2, 1, vs, ends)
		wantMiddles(t, 2, 10, vs, ends)
		wantMiddles(t, 1, 10, vs, []api.Vec{filled(dim, 0)})
		wantMiddles(t, 1, 10, slices.Repeat(ends[:1], 5000), ends[:1])
		wantMiddles(t, 1, 10, slices.Repeat(ends[1:], 5000), ends[1:])
		wantMiddles(t, 1, 1, []api.Vec{filled(dim, low), filled(dim, top), filled(dim, top-3)}, []api.Vec{filled(dim, 349524)})
	}
}

// TestMiddlesOfWhatMayNotBe hands in numbers that no vector has: what can be told of them is told.
func TestMiddlesOfWhatMayNotBe(t *testing.T) {
	wantMiddles(t, 1, 1, ones(greatest, greatest, greatest), ones(greatest))
	wantMiddles(t, 1, 1, ones(least, least, least), ones(least))
	wantMiddles(t, 1, 1, ones(least, greatest), ones(-1))
	wantMiddles(t, 1, 1, slices.Repeat([]api.Vec{filled(20, least)}, 500), []api.Vec{filled(20, least)})
	wantMiddles(t, 16, 2, []api.Vec{nil, {}, nil}, []api.Vec{{}})
	wantMiddles(t, 3, 10, []api.Vec{filled(9, 1), filled(9, 4), filled(9, 5)}, []api.Vec{filled(9, 1), filled(9, 4), filled(9, 5)})
}

// TestMiddlesOfUnlikeLengths: a middle has as many places as the vector that it was at first, and a number that a
// vector has not adds nothing to a sum.
func TestMiddlesOfUnlikeLengths(t *testing.T) {
	wantMiddles(t, 4, 0, []api.Vec{{1}, {1, 2}, {1}, nil, {1, 2, 3}, {}}, []api.Vec{{1}, {1, 2}, {}, {1, 2, 3}})
	wantMiddles(t, 1, 1, []api.Vec{{2}, {4, 8}, {6, 8, 9}}, ones(4))
	wantMiddles(t, 1, 1, []api.Vec{{2, 3}, {4}, {}}, []api.Vec{{2, 1}})
	wantMiddles(t, 1, 1, []api.Vec{{2, -3}, {4}, nil}, []api.Vec{{2, -1}})
	wantMiddles(t, 1, 1, []api.Vec{nil, {4}, {5, 6}}, []api.Vec{nil})
}

// TestMiddlesOfAnyLists draws lists of any vectors: nothing panics, and the same list gets the same answer.
func TestMiddlesOfAnyLists(t *testing.T) {
	draw := rand.New(rand.NewPCG(12, 2))
	for range 5000 {
		vs := make([]api.Vec, draw.IntN(30))
		for k := range vs {
			vs[k] = anyVector(draw, draw.IntN(11))
		}
		n, rounds := draw.IntN(30)-5, draw.IntN(20)-4
		before := cloned(vs)
		got := means.Middles(n, rounds, vs...)
		if (got == nil) != (len(vs) == 0) || len(got) > 16 {
			t.Fatalf("P12.1: Middles(%d, %d) of %v: %v", n, rounds, vs, got)
		}
		if !like(got, means.Middles(n, rounds, vs...)) || !like(vs, before) {
			t.Fatalf("P0.5: Middles(%d, %d) of %v", n, rounds, before)
		}
	}
}

// exactScore is an L2 Score beyond all bits.
func exactScore(a, b api.Vec) *big.Int {
	sum := new(big.Int)
	for k := range a {
		d := new(big.Int).Sub(big.NewInt(int64(a[k])), big.NewInt(int64(b[k])))
		sum.Add(sum, d.Mul(d, d))
	}
	return sum
}

// exactNearest is Nearest of some middles, by the chapter's words.
func exactNearest(ms []api.Vec, v api.Vec) int {
	nearest := 0
	for place, m := range ms {
		if exactScore(m, v).Cmp(exactScore(ms[nearest], v)) < 0 {
			nearest = place
		}
	}
	return nearest
}

// exactMiddles is Middles by the chapter's words: each middle's vectors stand in a list, and sums have no end of bits.
func exactMiddles(n, rounds int, vs []api.Vec) []api.Vec {
	ms := []api.Vec{}
	for _, v := range vs {
		if len(ms) < n && !slices.ContainsFunc(ms, func(m api.Vec) bool { return slices.Equal(m, v) }) {
			ms = append(ms, v)
		}
	}
	for range rounds {
		lists := make([][]api.Vec, len(ms))
		for _, v := range vs {
			to := exactNearest(ms, v)
			lists[to] = append(lists[to], v)
		}
		for place, list := range lists {
			if len(list) > 0 {
				ms[place] = exactMiddle(list)
			}
		}
	}
	return ms
}

// exactMiddle is the middle of some vectors of one length.
func exactMiddle(list []api.Vec) api.Vec {
	m := make(api.Vec, len(list[0]))
	for k := range m {
		sum := new(big.Int)
		for _, v := range list {
			sum.Add(sum, big.NewInt(int64(v[k])))
		}
		// Div goes towards below where the divisor is above 0.
		m[k] = int32(sum.Div(sum, big.NewInt(int64(len(list)))).Int64())
	}
	return m
}

// TestDraws draws vectors that may be, often ones that are near, so that many are alike or as near to two middles.
func TestDraws(t *testing.T) {
	draw := rand.New(rand.NewPCG(12, 3))
	for range 4000 {
		dim, reach := 1+draw.IntN(8), int32(1)<<draw.IntN(22)
		if draw.IntN(2) == 0 {
			dim, reach = 1+draw.IntN(2), 1+draw.Int32N(9)
		}
		vs := make([]api.Vec, draw.IntN(25))
		for k := range vs {
			vs[k] = make(api.Vec, dim)
			for at := range vs[k] {
				vs[k][at] = min(max(draw.Int32N(2*reach+1)-reach, low), top)
			}
		}
		n, rounds := 1+draw.IntN(16), draw.IntN(11)
		want := exactMiddles(n, rounds, vs)
		wantMiddles(t, n, rounds, vs, want)
		for _, v := range vs {
			wantNearest(t, want, v, exactNearest(want, v))
		}
		if t.Failed() {
			t.FailNow()
		}
	}
}

// TestLongLists has more vectors than a round of slow steps would get through.
func TestLongLists(t *testing.T) {
	const count = 200000
	vs := row(count)
	got := means.Middles(16, 10, vs...)
	if len(got) != 16 || !slices.IsSortedFunc(got, func(a, b api.Vec) int { return int(a[0]) - int(b[0]) }) {
		t.Errorf("P12.1: Middles of %d: %v", count, got)
	}
	wantMiddles(t, 1, 10, vs, ones((count-1)/2))
	wantNearest(t, vs, api.Vec{count - 7}, count-7)
	order := means.Order(vs, api.Vec{count})
	for k, place := range order {
		if place != count-1-k {
			t.Fatalf("P12.1: Order of %d: %d at %d", count, place, k)
		}
	}
}

// overwrite writes into a list, its spare room too.
func overwrite[N int | int32](list []N) {
	list = list[:cap(list)]
	for k := range list {
		list[k] = 77
	}
}

func TestMiddlesShareNothing(t *testing.T) {
	for _, rounds := range []int{0, 1, 3, 10} {
		vs := []api.Vec{{0, 0}, {90, 90}, {-90, 90}, {0, 0}, {90, 90}}
		before := cloned(vs)
		one, two := means.Middles(3, rounds, vs...), means.Middles(3, rounds, vs...)
		kept := cloned(two)
		// Each middle is written into, and no other one changes by it.
		for place, m := range one {
			overwrite(m)
			_ = append(m, 66, 66)
			if !like(one[place+1:], kept[place+1:]) {
				t.Errorf("P0.3: who writes into a middle changes another: %v", one)
			}
		}
		one = one[:cap(one)]
		for k := range one {
			one[k] = api.Vec{55}
		}
		if !like(two, kept) || !like(vs, before) {
			t.Errorf("P0.3: who writes into an answer changes more: %v, %v", two, vs)
		}
		for k, v := range vs {
			overwrite(v)
			vs[k] = nil
		}
		if !like(two, kept) {
			t.Errorf("P0.3: who writes into what was handed in changes an answer: %v", two)
		}
		wantMiddles(t, 3, rounds, before, kept)
	}
}

func TestOrdersShareNothing(t *testing.T) {
	ms, v := ones(3, 2, 1), api.Vec{0}
	one, two := means.Order(ms, v), means.Order(ms, v)
	overwrite(one)
	_ = append(one, 66, 66)
	if !slices.Equal(two, []int{2, 1, 0}) {
		t.Errorf("P0.3: who writes into an answer changes another: %v", two)
	}
	wantOrder(t, ms, v, 2, 1, 0)
	if !like(ms, ones(3, 2, 1)) || !slices.Equal(v, api.Vec{0}) {
		t.Errorf("P0.3: %v, %v", ms, v)
	}
}

// TestArgumentsAreNotChanged hands in lists with room behind them, and looks at that too.
func TestArgumentsAreNotChanged(t *testing.T) {
	numbers := []int32{1, 2, 30, 40, 5, 6, 7, 8}
	list := []api.Vec{numbers[:2], numbers[2:4], numbers[4:6], {9, 9}, {8, 8}}
	want := cloned(list)
	for n := range 5 {
		for rounds := range 5 {
			means.Middles(n, rounds, list[:3]...)
		}
	}
	means.Nearest(list[:3], numbers[4:6])
	means.Order(list[:3], numbers[4:6])
	means.Order(list[:4], numbers[:1])
	if !slices.Equal(numbers, []int32{1, 2, 30, 40, 5, 6, 7, 8}) || !like(list, want) {
		t.Errorf("P0.3: %v, %v", numbers, list)
	}
}
