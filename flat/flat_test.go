package flat_test

import (
	"cmp"
	"math"
	"math/rand/v2"
	"slices"
	"testing"

	"fieldfare/api"
	"fieldfare/flat"
	"fieldfare/metric"
)

const (
	least    = math.MinInt32
	greatest = math.MaxInt32
	low      = -1048576 // the least number of a vector
	top      = 1048576  // the greatest
)

// noMetrics are numbers that no metric has.
var noMetrics = []int{0, 3, 4, 5, -1, -2, 1<<32 + 1, 1<<32 + 2, 1<<63 - 1, -1 << 63, -1<<63 + 1, -1<<63 + 2}

// someIds are ids of which none is told apart by the others' lower bits alone.
var someIds = []int{math.MinInt, math.MinInt + 1, -1 << 32, -1001, -1, 0, 1, 2, 1000, 1001, 1 << 32, 1<<32 + 1, math.MaxInt - 1, math.MaxInt}

// hit gives a hit of an Id and a Score.
func hit(id int, score int64) api.Hit {
	return api.Hit{Id: id, Score: score}
}

// filled gives a vector of count times n.
func filled(count int, n int32) api.Vec {
	return slices.Repeat(api.Vec{n}, count)
}

// wantSearch holds Search against want.
func wantSearch(t *testing.T, f *flat.Flat, q api.Vec, k int, want ...api.Hit) {
	t.Helper()
	if got := f.Search(q, k); !slices.Equal(got, want) {
		t.Errorf("P13.1: Search(%v, %d): %v, not %v", q, k, got, want)
	}
}

// wantEach holds Search of each k against the first of want, which are all.
func wantEach(t *testing.T, f *flat.Flat, q api.Vec, want ...api.Hit) {
	t.Helper()
	for _, k := range []int{0, -1, -2, -1<<32 + 1, math.MinInt} {
		wantSearch(t, f, q, k)
	}
	for k := range len(want) {
		wantSearch(t, f, q, k, want[:k]...)
	}
	for _, k := range []int{len(want), len(want) + 1, 1 << 32, math.MaxInt} {
		wantSearch(t, f, q, k, want...)
	}
}

// wantIds holds Ids against want.
func wantIds(t *testing.T, f *flat.Flat, want ...int) {
	t.Helper()
	if got := f.Ids(); !slices.Equal(got, want) {
		t.Errorf("P13.1: Ids: %v, not %v", got, want)
	}
}

// wantVec holds Vec of a member against want.
func wantVec(t *testing.T, f *flat.Flat, id int, want ...int32) {
	t.Helper()
	if got, ok := f.Vec(id); !ok || !slices.Equal(got, want) {
		t.Errorf("P13.1: Vec(%d): %v, %v, not %v", id, got, ok, want)
	}
}

// wantNoVec holds Vec of one that is no member against nil, false.
func wantNoVec(t *testing.T, f *flat.Flat, ids ...int) {
	t.Helper()
	for _, id := range ids {
		if got, ok := f.Vec(id); ok || got != nil {
			t.Errorf("P13.1: Vec(%d): %v, %v, not nil, false", id, got, ok)
		}
	}
}

// wantDel holds Del against want.
func wantDel(t *testing.T, f *flat.Flat, id int, want bool) {
	t.Helper()
	if got := f.Del(id); got != want {
		t.Errorf("P13.1: Del(%d): %v, not %v", id, got, want)
	}
}

// wantEmpty holds all that is told of no members against nothing.
func wantEmpty(t *testing.T, f *flat.Flat) {
	t.Helper()
	wantIds(t, f)
	wantNoVec(t, f, someIds...)
	for _, q := range []api.Vec{nil, {}, {1}, {low, top}, filled(9, greatest)} {
		wantEach(t, f, q)
	}
}

// line gives one of L2 with a member for each number, of the ids 1, 2 and so on.
func line(ns ...int32) *flat.Flat {
	f := flat.New(api.L2)
	for k, n := range ns {
		f.Put(k+1, api.Vec{n})
	}
	return f
}

func TestNew(t *testing.T) {
	for _, m := range []int{api.L2, api.Dot} {
		f := flat.New(m)
		if f == nil {
			t.Fatalf("P13.1: New(%d): nil", m)
		}
		wantEmpty(t, f)
	}
	for _, m := range noMetrics {
		if flat.New(m) != nil {
			t.Errorf("P13.1: New(%d): not nil", m)
		}
	}
}

func TestEmpty(t *testing.T) {
	for _, m := range []int{api.L2, api.Dot} {
		f := flat.New(m)
		for _, id := range someIds {
			wantDel(t, f, id, false)
		}
		wantEmpty(t, f)
		// Nor does anything stay of members that went.
		for _, id := range someIds {
			f.Put(id, api.Vec{1, 2})
		}
		for _, id := range someIds {
			wantDel(t, f, id, true)
		}
		wantEmpty(t, f)
		for _, id := range someIds {
			wantDel(t, f, id, false)
		}
	}
}

func TestSearchOfL2(t *testing.T) {
	f := flat.New(api.L2)
	f.Put(4, api.Vec{0, 0})
	f.Put(9, api.Vec{3, 4})
	f.Put(1, api.Vec{-6, 0})
	f.Put(-2, api.Vec{1, 1})
	wantEach(t, f, api.Vec{0, 0}, hit(4, 0), hit(-2, 2), hit(9, 25), hit(1, 36))
	wantEach(t, f, api.Vec{3, 4}, hit(9, 0), hit(-2, 13), hit(4, 25), hit(1, 97))
	wantEach(t, f, api.Vec{-7, 1}, hit(1, 2), hit(4, 50), hit(-2, 64), hit(9, 109))
	// A question of one that is no member is none of them from then on.
	wantIds(t, f, -2, 1, 4, 9)
}

func TestSearchOfDot(t *testing.T) {
	f := flat.New(api.Dot)
	f.Put(4, api.Vec{0, 0})
	f.Put(9, api.Vec{3, 4})
	f.Put(1, api.Vec{-6, 0})
	f.Put(-2, api.Vec{1, 1})
	wantEach(t, f, api.Vec{2, 1}, hit(9, -10), hit(-2, -3), hit(4, 0), hit(1, 12))
	wantEach(t, f, api.Vec{-1, 0}, hit(1, -6), hit(4, 0), hit(-2, 1), hit(9, 3))
	wantEach(t, f, api.Vec{0, 0}, hit(-2, 0), hit(1, 0), hit(4, 0), hit(9, 0))
}

func TestSearchOfOne(t *testing.T) {
	f := line(5)
	wantEach(t, f, api.Vec{2}, hit(1, 9))
	wantEach(t, f, api.Vec{5}, hit(1, 0))
	wantDel(t, f, 1, true)
	wantEmpty(t, f)
}

func TestAlikeScoresGoById(t *testing.T) {
	f := flat.New(api.L2)
	for _, id := range []int{8, math.MaxInt, -3, 0, math.MinInt, 7} {
		f.Put(id, api.Vec{6, 6})
	}
	wantEach(t, f, api.Vec{5, 5}, hit(math.MinInt, 2), hit(-3, 2), hit(0, 2), hit(7, 2), hit(8, 2), hit(math.MaxInt, 2))
	// Members on both sides of the question, as far, and one that is nearer than all.
	f = line(10, 0, 10, 0, 4, 6, 5)
	wantEach(t, f, api.Vec{5}, hit(7, 0), hit(5, 1), hit(6, 1), hit(1, 25), hit(2, 25), hit(3, 25), hit(4, 25))
}

func TestAnyIds(t *testing.T) {
	orders := [][]int{someIds, slices.Clone(someIds), slices.Clone(someIds)}
	slices.Reverse(orders[1])
	rand.New(rand.NewPCG(13, 1)).Shuffle(len(someIds), func(a, b int) { orders[2][a], orders[2][b] = orders[2][b], orders[2][a] })
	for _, order := range orders {
		f := flat.New(api.L2)
		for _, id := range order {
			f.Put(id, api.Vec{int32(slices.Index(someIds, id))})
		}
		wantIds(t, f, someIds...)
		want := []api.Hit{}
		for k, id := range someIds {
			wantVec(t, f, id, int32(k))
			want = append(want, hit(id, int64(k*k)))
		}
		wantEach(t, f, api.Vec{0}, want...)
		for k, id := range someIds {
			wantDel(t, f, id, true)
			wantDel(t, f, id, false)
			wantNoVec(t, f, id)
			wantIds(t, f, someIds[k+1:]...)
			wantEach(t, f, api.Vec{0}, want[k+1:]...)
		}
	}
}

func TestPutInPlace(t *testing.T) {
	f := line(1, 5, 9)
	wantEach(t, f, api.Vec{1}, hit(1, 0), hit(2, 16), hit(3, 64))
	f.Put(1, api.Vec{11})
	wantIds(t, f, 1, 2, 3)
	wantVec(t, f, 1, 11)
	wantEach(t, f, api.Vec{1}, hit(2, 16), hit(3, 64), hit(1, 100))
	// The same again changes nothing, and what is shorter or longer than it was stands as it is.
	f.Put(1, api.Vec{11})
	wantEach(t, f, api.Vec{11}, hit(1, 0), hit(3, 4), hit(2, 36))
	f.Put(1, api.Vec{10, 20, 30})
	wantVec(t, f, 1, 10, 20, 30)
	f.Put(1, api.Vec{10, 2})
	wantVec(t, f, 1, 10, 2)
	wantEach(t, f, api.Vec{9, 3, 50}, hit(3, 0), hit(1, 2), hit(2, 16))
	f.Put(1, nil)
	wantVec(t, f, 1)
	wantIds(t, f, 1, 2, 3)
	wantVec(t, f, 2, 5)
	wantVec(t, f, 3, 9)
}

func TestDel(t *testing.T) {
	f := line(1, 5, 9)
	wantDel(t, f, 2, true)
	wantDel(t, f, 2, false)
	wantDel(t, f, 4, false)
	wantDel(t, f, 0, false)
	wantDel(t, f, -1, false)
	wantIds(t, f, 1, 3)
	wantNoVec(t, f, 2, 4, 0, -1)
	wantEach(t, f, api.Vec{5}, hit(1, 16), hit(3, 16))
	// One that was comes again with what it is put with, not with what it had.
	f.Put(2, api.Vec{8, 8})
	wantIds(t, f, 1, 2, 3)
	wantVec(t, f, 2, 8, 8)
	wantEach(t, f, api.Vec{8, 7}, hit(2, 1), hit(3, 1), hit(1, 49))
	wantDel(t, f, 2, true)
	wantDel(t, f, 2, false)
	wantIds(t, f, 1, 3)
}

// TestUnlikeLengths goes by what Score tells of them: the numbers that both have.
func TestUnlikeLengths(t *testing.T) {
	f := flat.New(api.L2)
	f.Put(1, api.Vec{9})
	f.Put(2, api.Vec{1, 50})
	f.Put(3, api.Vec{1, 2, 3})
	f.Put(4, nil)
	f.Put(5, api.Vec{})
	f.Put(6, filled(3000, 2))
	wantEach(t, f, api.Vec{1}, hit(2, 0), hit(3, 0), hit(4, 0), hit(5, 0), hit(6, 1), hit(1, 64))
	wantEach(t, f, api.Vec{2, 2}, hit(4, 0), hit(5, 0), hit(6, 0), hit(3, 1), hit(1, 49), hit(2, 2305))
	wantEach(t, f, filled(2000, 3), hit(4, 0), hit(5, 0), hit(3, 5), hit(1, 36), hit(6, 2000), hit(2, 2213))
	wantEach(t, f, nil, hit(1, 0), hit(2, 0), hit(3, 0), hit(4, 0), hit(5, 0), hit(6, 0))
	wantEach(t, f, api.Vec{}, hit(1, 0), hit(2, 0), hit(3, 0), hit(4, 0), hit(5, 0), hit(6, 0))
	wantIds(t, f, 1, 2, 3, 4, 5, 6)
	wantVec(t, f, 4)
	wantVec(t, f, 5)
	wantVec(t, f, 6, filled(3000, 2)...)
}

// TestNumbersAtTheEdge has Scores far beyond 32 bits, and numbers that no vector may have, of which sums wrap.
func TestNumbersAtTheEdge(t *testing.T) {
	for _, m := range []int{api.L2, api.Dot} {
		for count := 1; count <= 9; count++ {
			f := flat.New(m)
			ends := []int32{0, 1, -1, top, low, top - 1, low + 1, greatest, least}
			for k, n := range ends {
				f.Put(k, filled(count, n))
			}
			for k, n := range ends {
				wantVec(t, f, k, filled(count, n)...)
				q, want := filled(count, n), []api.Hit{}
				for id, other := range ends {
					want = append(want, hit(id, metric.Score(m, q, filled(count, other))))
				}
				slices.SortFunc(want, inOrder)
				wantEach(t, f, q, want...)
			}
		}
	}
	f := flat.New(api.L2)
	f.Put(1, filled(8, top))
	f.Put(2, filled(8, low))
	wantEach(t, f, filled(8, low), hit(2, 0), hit(1, 8<<42))
	f = flat.New(api.Dot)
	f.Put(1, filled(8, top))
	f.Put(2, filled(8, low))
	wantEach(t, f, filled(8, low), hit(2, -8<<40), hit(1, 8<<40))
}

// inOrder tells which of two hits of unlike Ids comes first.
func inOrder(a, b api.Hit) int {
	return cmp.Or(cmp.Compare(a.Score, b.Score), cmp.Compare(a.Id, b.Id))
}

func TestNil(t *testing.T) {
	for _, f := range []*flat.Flat{nil, flat.New(0), flat.New(3)} {
		for _, v := range []api.Vec{nil, {}, {1}, filled(9, least)} {
			for _, id := range someIds {
				f.Put(id, v)
				wantDel(t, f, id, false)
			}
		}
		wantEmpty(t, f)
		if f.Ids() != nil || f.Search(nil, 5) != nil {
			t.Error("P13.1: nil: a list")
		}
	}
}

// TestZero: of a zero Flat the chapter says nothing; no call of it panics, and its metric is none, of which each
// Score is 0.
func TestZero(t *testing.T) {
	wantEmpty(t, &flat.Flat{})
	var f flat.Flat
	wantDel(t, &f, 1, false)
	f.Put(1, api.Vec{5})
	f.Put(-1, api.Vec{9})
	wantVec(t, &f, 1, 5)
	wantIds(t, &f, -1, 1)
	wantEach(t, &f, api.Vec{5}, hit(-1, 0), hit(1, 0))
	wantDel(t, &f, 1, true)
	wantIds(t, &f, -1)
}

// spoil writes into a list, its spare room too.
func spoil[E any](list []E, with E) {
	list = list[:cap(list)]
	for k := range list {
		list[k] = with
	}
}

func TestWhatIsHandedInStaysAndIsNotKept(t *testing.T) {
	room := api.Vec{5, 6, 7, 8, 9, 10}
	was := slices.Clone(room)
	for count := range len(room) + 1 {
		f := flat.New(api.L2)
		f.Put(1, room[:count])
		f.Put(2, room[:count])
		f.Search(room[:count], 2)
		f.Search(room[:count], 0)
		if !slices.Equal(room, was) {
			t.Fatalf("P0.3: %d numbers: what was handed in: %v, not %v", count, room, was)
		}
		spoil(room, 77)
		wantVec(t, f, 1, was[:count]...)
		wantVec(t, f, 2, was[:count]...)
		wantEach(t, f, was, hit(1, 0), hit(2, 0))
		copy(room, was)
	}
}

func TestWhatIsToldSharesNothing(t *testing.T) {
	for count := range 10 {
		f := flat.New(api.L2)
		for id := range count {
			f.Put(id, filled(count, int32(id)))
		}
		ids, hits, want := f.Ids(), f.Search(nil, count), []api.Hit{}
		otherIds, otherHits := f.Ids(), f.Search(nil, count)
		rising := slices.Clone(ids)
		for id := range count {
			want = append(want, hit(id, 0))
			v, _ := f.Vec(id)
			other, _ := f.Vec(id)
			spoil(v, 77)
			if !slices.Equal(other, filled(count, int32(id))) {
				t.Errorf("P0.3: another Vec(%d): %v", id, other)
			}
			wantVec(t, f, id, filled(count, int32(id))...)
		}
		spoil(ids, -99)
		spoil(hits, hit(-99, -99))
		if !slices.Equal(otherIds, rising) || !slices.Equal(otherHits, want) {
			t.Errorf("P0.3: another list: %v, %v", otherIds, otherHits)
		}
		wantIds(t, f, rising...)
		wantEach(t, f, nil, want...)
	}
}

func TestAnAnswerStaysAsItWasTold(t *testing.T) {
	f := line(1, 5, 9)
	v, _ := f.Vec(2)
	ids, hits := f.Ids(), f.Search(api.Vec{5}, 5)
	f.Put(2, api.Vec{70})
	f.Put(9, api.Vec{5})
	wantDel(t, f, 1, true)
	wantDel(t, f, 2, true)
	if !slices.Equal(v, api.Vec{5}) || !slices.Equal(ids, []int{1, 2, 3}) || !slices.Equal(hits, []api.Hit{hit(2, 0), hit(1, 16), hit(3, 16)}) {
		t.Errorf("P0.3: an answer changed: %v, %v, %v", v, ids, hits)
	}
}

func TestTwoShareNothing(t *testing.T) {
	a, b := flat.New(api.L2), flat.New(api.Dot)
	v := api.Vec{3}
	a.Put(1, v)
	b.Put(1, v)
	b.Put(2, v)
	wantDel(t, a, 1, true)
	wantEmpty(t, a)
	wantIds(t, b, 1, 2)
	wantEach(t, b, api.Vec{2}, hit(1, -6), hit(2, -6))
}

// plain is the chapter by its words: a list of members, rising, gone through from its beginning.
type plain struct {
	metric int
	ids    []int
	vecs   []api.Vec
}

func (p *plain) put(id int, v api.Vec) {
	at, there := slices.BinarySearch(p.ids, id)
	if there {
		p.vecs[at] = slices.Clone(v)
		return
	}
	p.ids = slices.Insert(p.ids, at, id)
	p.vecs = slices.Insert(p.vecs, at, slices.Clone(v))
}

func (p *plain) del(id int) bool {
	at, there := slices.BinarySearch(p.ids, id)
	if there {
		p.ids = slices.Delete(p.ids, at, at+1)
		p.vecs = slices.Delete(p.vecs, at, at+1)
	}
	return there
}

func (p *plain) search(q api.Vec) []api.Hit {
	hits := []api.Hit{}
	for k, id := range p.ids {
		hits = append(hits, hit(id, metric.Score(p.metric, q, p.vecs[k])))
	}
	slices.SortFunc(hits, inOrder)
	return hits
}

// drawn gives a vector of small numbers, so that many Scores are alike.
func drawn(draw *rand.Rand) api.Vec {
	v := make(api.Vec, draw.IntN(4))
	for k := range v {
		v[k] = draw.Int32N(7) - 3
	}
	return v
}

// TestAgainstPlain puts, takes out and asks at random, and holds all that is told against the chapter's words.
func TestAgainstPlain(t *testing.T) {
	draw := rand.New(rand.NewPCG(13, 2))
	for round := range 300 {
		m := api.L2 + round%2
		f, p := flat.New(m), &plain{metric: m}
		ids := 1 + draw.IntN(40)
		for range draw.IntN(120) {
			id := draw.IntN(ids) - 5
			if draw.IntN(3) > 0 {
				v := drawn(draw)
				f.Put(id, v)
				p.put(id, v)
			} else {
				wantDel(t, f, id, p.del(id))
			}
			wantIds(t, f, p.ids...)
			q := drawn(draw)
			all := p.search(q)
			k := draw.IntN(ids + 3)
			wantSearch(t, f, q, k, all[:min(k, len(all))]...)
		}
		for k, id := range p.ids {
			wantVec(t, f, id, p.vecs[k]...)
		}
		if t.Failed() {
			t.FailNow()
		}
	}
}

// TestTheSameAgain asks many that were told the same in unlike orders: they tell the same, each time.
func TestTheSameAgain(t *testing.T) {
	const count = 500
	draw := rand.New(rand.NewPCG(13, 3))
	a := flat.New(api.L2)
	for id := range count {
		a.Put(id, api.Vec{int32(id % 5)})
	}
	want := a.Search(api.Vec{2}, 20)
	for range 20 {
		b := flat.New(api.L2)
		for _, id := range draw.Perm(count) {
			b.Put(id, api.Vec{9})
			b.Put(id, api.Vec{int32(id % 5)})
		}
		wantIds(t, b, a.Ids()...)
		wantSearch(t, b, api.Vec{2}, 20, want...)
		wantSearch(t, a, api.Vec{2}, 20, want...)
	}
}

// TestManyMembers would not end in time if a Put or a Del went through all members.
func TestManyMembers(t *testing.T) {
	const count = 200_000
	f := flat.New(api.L2)
	for id := range count {
		f.Put(id*7919%count, api.Vec{int32(id * 7919 % count)})
	}
	wantSearch(t, f, api.Vec{-1}, 3, hit(0, 1), hit(1, 4), hit(2, 9))
	if got := f.Search(api.Vec{0}, math.MaxInt); len(got) != count || got[count-1] != hit(count-1, (count-1)*(count-1)) {
		t.Errorf("P13.1: Search of all of %d: %d", count, len(got))
	}
	if got := f.Ids(); len(got) != count || got[0] != 0 || got[count-1] != count-1 || !slices.IsSorted(got) {
		t.Errorf("P13.1: Ids of %d: %d", count, len(got))
	}
	for id := range count - 1 {
		wantDel(t, f, id, true)
	}
	wantIds(t, f, count-1)
	wantEach(t, f, api.Vec{0}, hit(count-1, (count-1)*(count-1)))
}
