package best_test

import (
	"math"
	"math/rand/v2"
	"slices"
	"testing"

	"fieldfare/api"
	"fieldfare/best"
	"fieldfare/metric"
)

// hit gives a hit of an Id and a Score.
func hit(id int, score int64) api.Hit {
	return api.Hit{Id: id, Score: score}
}

// wantPut holds what Put tells against want.
func wantPut(t *testing.T, b *best.Best, h api.Hit, want bool) {
	t.Helper()
	if got := b.Put(h); got != want {
		t.Errorf("P10.1: Put(%v): %v, not %v", h, got, want)
	}
}

// wantWorst holds what Worst tells against want.
func wantWorst(t *testing.T, b *best.Best, want api.Hit, wantOK bool) {
	t.Helper()
	if got, ok := b.Worst(); got != want || ok != wantOK {
		t.Errorf("P10.1: Worst: %v, %v, not %v, %v", got, ok, want, wantOK)
	}
}

// wantAll holds what All and Len tell against want.
func wantAll(t *testing.T, b *best.Best, want ...api.Hit) {
	t.Helper()
	if got := b.All(); !slices.Equal(got, want) {
		t.Errorf("P10.1: All: %v, not %v", got, want)
	}
	if got := b.Len(); got != len(want) {
		t.Errorf("P10.1: Len: %d, not %d", got, len(want))
	}
}

// filled gives one of the hits at hand, as many as it may keep.
func filled(t *testing.T, hits ...api.Hit) *best.Best {
	t.Helper()
	b := best.New(len(hits))
	for _, h := range hits {
		wantPut(t, b, h, true)
	}
	return b
}

// plain is the chapter by its words: a list in order, gone through from its beginning.
type plain struct {
	most int
	hits []api.Hit
}

func (p *plain) put(h api.Hit) bool {
	for _, there := range p.hits {
		if there.Id == h.Id {
			return false
		}
	}
	if len(p.hits) == p.most {
		if p.most == 0 || !metric.Less(h, p.hits[p.most-1]) {
			return false
		}
		p.hits = p.hits[:p.most-1]
	}
	at := 0
	for at < len(p.hits) && metric.Less(p.hits[at], h) {
		at++
	}
	p.hits = slices.Insert(p.hits, at, h)
	return true
}

func (p *plain) worst() (api.Hit, bool) {
	if p.most == 0 || len(p.hits) < p.most {
		return api.Hit{}, false
	}
	return p.hits[p.most-1], true
}

func TestKOfNoneAndBelow(t *testing.T) {
	for _, k := range []int{0, -1, -2, -1 << 32, math.MinInt} {
		b := best.New(k)
		if b == nil {
			t.Fatalf("P10.1: New(%d): nil", k)
		}
		for _, h := range []api.Hit{{}, hit(1, -5), hit(-1, math.MinInt64), hit(math.MinInt, math.MinInt64)} {
			wantPut(t, b, h, false)
			wantAll(t, b)
			wantWorst(t, b, api.Hit{}, false)
		}
		if got := best.Of(k, hit(1, 1), hit(2, 0)); len(got) != 0 {
			t.Errorf("P10.1: Of(%d): %v", k, got)
		}
	}
}

func TestKOfOne(t *testing.T) {
	b := best.New(1)
	wantWorst(t, b, api.Hit{}, false)
	wantPut(t, b, hit(5, 7), true)
	wantWorst(t, b, hit(5, 7), true)
	wantPut(t, b, hit(6, 7), false)
	wantPut(t, b, hit(5, 1), false)
	wantAll(t, b, hit(5, 7))
	wantPut(t, b, hit(4, 7), true)
	wantAll(t, b, hit(4, 7))
	wantPut(t, b, hit(5, 6), true)
	wantPut(t, b, hit(4, 8), false)
	wantAll(t, b, hit(5, 6))
	wantWorst(t, b, hit(5, 6), true)
}

func TestFewerThanK(t *testing.T) {
	b := best.New(4)
	wantAll(t, b)
	wantWorst(t, b, api.Hit{}, false)
	wantPut(t, b, hit(3, 30), true)
	wantPut(t, b, hit(1, 40), true)
	wantPut(t, b, hit(2, 20), true)
	wantAll(t, b, hit(2, 20), hit(3, 30), hit(1, 40))
	wantWorst(t, b, api.Hit{}, false)
	wantPut(t, b, hit(9, 50), true)
	wantWorst(t, b, hit(9, 50), true)
	wantAll(t, b, hit(2, 20), hit(3, 30), hit(1, 40), hit(9, 50))
}

func TestOneMoreThanK(t *testing.T) {
	for _, x := range []struct {
		name string
		h    api.Hit
		want bool
		all  []api.Hit
	}{
		{"worse by Score", hit(1, 41), false, []api.Hit{hit(2, 20), hit(7, 30), hit(5, 40)}},
		{"worse by Id", hit(6, 40), false, []api.Hit{hit(2, 20), hit(7, 30), hit(5, 40)}},
		{"alike", hit(5, 40), false, []api.Hit{hit(2, 20), hit(7, 30), hit(5, 40)}},
		{"better by Id", hit(4, 40), true, []api.Hit{hit(2, 20), hit(7, 30), hit(4, 40)}},
		{"better by Score", hit(9, 39), true, []api.Hit{hit(2, 20), hit(7, 30), hit(9, 39)}},
		{"in the middle", hit(8, 20), true, []api.Hit{hit(2, 20), hit(8, 20), hit(7, 30)}},
		{"the best", hit(9, -1), true, []api.Hit{hit(9, -1), hit(2, 20), hit(7, 30)}},
	} {
		t.Run(x.name, func(t *testing.T) {
			b := filled(t, hit(7, 30), hit(5, 40), hit(2, 20))
			wantWorst(t, b, hit(5, 40), true)
			wantPut(t, b, x.h, x.want)
			wantAll(t, b, x.all...)
			wantWorst(t, b, x.all[2], true)
		})
	}
}

func TestAlikeScoresGoById(t *testing.T) {
	b := best.New(3)
	for _, id := range []int{8, math.MaxInt, -3, 0} {
		wantPut(t, b, hit(id, 5), true)
	}
	wantAll(t, b, hit(-3, 5), hit(0, 5), hit(8, 5))
	wantPut(t, b, hit(9, 5), false)
	wantPut(t, b, hit(math.MinInt, 5), true)
	wantAll(t, b, hit(math.MinInt, 5), hit(-3, 5), hit(0, 5))
}

func TestAnIdThatIsThere(t *testing.T) {
	for _, most := range []int{3, 4} {
		b := best.New(most)
		for _, h := range []api.Hit{hit(1, 10), hit(2, 20), hit(3, 30)} {
			wantPut(t, b, h, true)
		}
		for _, id := range []int{1, 2, 3} {
			for _, score := range []int64{math.MinInt64, -1, 0, 9, 10, 11, 20, 29, 30, 31, math.MaxInt64} {
				wantPut(t, b, hit(id, score), false)
			}
		}
		wantAll(t, b, hit(1, 10), hit(2, 20), hit(3, 30))
	}
}

func TestAnIdThatWentComesAgain(t *testing.T) {
	b := filled(t, hit(1, 10), hit(2, 20))
	wantPut(t, b, hit(3, 15), true)
	wantAll(t, b, hit(1, 10), hit(3, 15))
	wantPut(t, b, hit(2, 20), false)
	wantPut(t, b, hit(2, 15), true)
	wantAll(t, b, hit(1, 10), hit(2, 15))
	wantPut(t, b, hit(3, 9), true)
	wantAll(t, b, hit(3, 9), hit(1, 10))
	wantPut(t, b, hit(3, 8), false)
	wantPut(t, b, hit(2, 0), true)
	wantAll(t, b, hit(2, 0), hit(3, 9))
}

func TestAnIdThatWasRefusedMayCome(t *testing.T) {
	b := filled(t, hit(1, 10), hit(2, 20))
	wantPut(t, b, hit(3, 21), false)
	wantPut(t, b, hit(3, 19), true)
	wantAll(t, b, hit(1, 10), hit(3, 19))
}

func TestScoresAtTheEnds(t *testing.T) {
	b := filled(t, hit(1, math.MaxInt64), hit(2, 0), hit(3, math.MinInt64))
	wantAll(t, b, hit(3, math.MinInt64), hit(2, 0), hit(1, math.MaxInt64))
	wantPut(t, b, hit(4, math.MinInt64), true)
	wantPut(t, b, hit(0, math.MaxInt64), false)
	wantAll(t, b, hit(3, math.MinInt64), hit(4, math.MinInt64), hit(2, 0))
}

func TestOf(t *testing.T) {
	for _, x := range []struct {
		k    int
		hits []api.Hit
		want []api.Hit
	}{
		{5, nil, nil},
		{5, []api.Hit{}, nil},
		{math.MaxInt, nil, nil},
		{0, nil, nil},
		{1, []api.Hit{hit(2, 3), hit(1, 3)}, []api.Hit{hit(1, 3)}},
		{2, []api.Hit{hit(2, 3), hit(1, 3)}, []api.Hit{hit(1, 3), hit(2, 3)}},
		{math.MaxInt, []api.Hit{hit(2, 3), hit(1, 4)}, []api.Hit{hit(2, 3), hit(1, 4)}},
		{2, []api.Hit{hit(3, 5), hit(3, 1), hit(1, 5), hit(2, 5)}, []api.Hit{hit(1, 5), hit(2, 5)}},
		{2, []api.Hit{hit(3, 1), hit(3, 5), hit(1, 5), hit(2, 5)}, []api.Hit{hit(3, 1), hit(1, 5)}},
		{2, []api.Hit{hit(1, 9), hit(2, 8), hit(3, 7), hit(1, 1)}, []api.Hit{hit(1, 1), hit(3, 7)}},
	} {
		if got := best.Of(x.k, x.hits...); !slices.Equal(got, x.want) {
			t.Errorf("P10.1: Of(%d, %v): %v, not %v", x.k, x.hits, got, x.want)
		}
	}
	if got := best.Of(3); len(got) != 0 {
		t.Errorf("P10.1: Of of no hits: %v", got)
	}
}

func TestNil(t *testing.T) {
	var b *best.Best
	for _, h := range []api.Hit{{}, hit(1, -5)} {
		wantPut(t, b, h, false)
	}
	wantWorst(t, b, api.Hit{}, false)
	if b.Len() != 0 || b.All() != nil {
		t.Errorf("P10.1: nil: Len %d, All %v", b.Len(), b.All())
	}
}

func TestZero(t *testing.T) {
	var b best.Best
	wantPut(t, &b, hit(1, -5), false)
	wantWorst(t, &b, api.Hit{}, false)
	wantAll(t, &b)
}

// spoil writes into a list, its spare room too.
func spoil(hits []api.Hit) {
	hits = hits[:cap(hits)]
	for k := range hits {
		hits[k] = hit(-99, -99)
	}
}

func TestAllSharesNothing(t *testing.T) {
	want := []api.Hit{hit(1, 10), hit(2, 20), hit(3, 30), hit(4, 40)}
	for _, most := range []int{4, 5, 100} {
		b := best.New(most)
		for _, h := range []api.Hit{hit(4, 40), hit(3, 30), hit(2, 20), hit(1, 10)} {
			wantPut(t, b, h, true)
		}
		first, second := b.All(), b.All()
		spoil(first)
		if !slices.Equal(second, want) {
			t.Errorf("P0.3: most %d: another list: %v", most, second)
		}
		wantAll(t, b, want...)
		spoil(second)
		wantPut(t, b, hit(1, 5), false)
		wantAll(t, b, want...)
	}
}

func TestAListStaysAsItWasTold(t *testing.T) {
	want := []api.Hit{hit(1, 10), hit(2, 20), hit(3, 30)}
	for _, most := range []int{3, 4, 100} {
		b := best.New(most)
		for _, h := range want {
			wantPut(t, b, h, true)
		}
		all := b.All()
		wantPut(t, b, hit(0, 0), true)
		wantPut(t, b, hit(7, 5), true)
		if !slices.Equal(all, want) {
			t.Errorf("P0.3: most %d: %v, not %v", most, all, want)
		}
	}
}

func TestOfChangesAndKeepsNoArgument(t *testing.T) {
	room := []api.Hit{hit(4, 40), hit(2, 20), hit(3, 30), hit(1, 10), hit(9, 1), hit(8, 2)}
	was := slices.Clone(room)
	got := best.Of(3, room[:4]...)
	if !slices.Equal(room, was) {
		t.Errorf("P0.3: the argument: %v, not %v", room, was)
	}
	spoil(got)
	if !slices.Equal(room, was) {
		t.Errorf("P0.3: the argument shares its memory with the answer: %v", room)
	}
	for k := 1; k <= 6; k++ {
		got := best.Of(k, room...)
		want := slices.Clone(got)
		spoil(room)
		if !slices.Equal(got, want) {
			t.Errorf("P0.3: Of(%d) shares its memory with the argument: %v", k, got)
		}
		copy(room, was)
	}
}

func TestTwoShareNothing(t *testing.T) {
	a, b := best.New(2), best.New(2)
	wantPut(t, a, hit(1, 10), true)
	wantPut(t, b, hit(1, 20), true)
	wantPut(t, b, hit(2, 30), true)
	wantAll(t, a, hit(1, 10))
	wantAll(t, b, hit(1, 20), hit(2, 30))
}

// TestAgainstPlain puts hits of few Ids and Scores, so that many are alike, and holds all that is told each time
// against the chapter's words.
func TestAgainstPlain(t *testing.T) {
	draw := rand.New(rand.NewPCG(10, 1))
	for range 600 {
		most := draw.IntN(14)
		b, p := best.New(most), &plain{most: most}
		ids, scores := 1+draw.IntN(40), 1+draw.Int64N(30)
		for range draw.IntN(80) {
			h := hit(draw.IntN(ids)-5, draw.Int64N(scores)-3)
			wantPut(t, b, h, p.put(h))
			wantAll(t, b, p.hits...)
			w, ok := p.worst()
			wantWorst(t, b, w, ok)
		}
		if t.Failed() {
			t.FailNow()
		}
	}
}

// TestEachOrder puts the same hits of unlike Ids in each order there is.
func TestEachOrder(t *testing.T) {
	hits := []api.Hit{hit(1, 7), hit(2, 3), hit(3, 7), hit(4, -1), hit(5, 3), hit(6, 9)}
	rank := []api.Hit{hit(4, -1), hit(2, 3), hit(5, 3), hit(1, 7), hit(3, 7), hit(6, 9)}
	orders := 0
	eachOrder(hits, 0, func() {
		orders++
		for k := 0; k <= len(hits)+1; k++ {
			want := rank[:min(k, len(rank))]
			if got := best.Of(k, hits...); !slices.Equal(got, want) {
				t.Fatalf("P10.1: Of(%d, %v): %v, not %v", k, hits, got, want)
			}
		}
	})
	if orders != 720 {
		t.Errorf("%d orders", orders)
	}
}

// eachOrder calls do with the hits from a place on in each order.
func eachOrder(hits []api.Hit, from int, do func()) {
	if from == len(hits) {
		do()
		return
	}
	for k := from; k < len(hits); k++ {
		hits[from], hits[k] = hits[k], hits[from]
		eachOrder(hits, from+1, do)
		hits[from], hits[k] = hits[k], hits[from]
	}
}

// TestLongLists would not end in time if a Put went through all that is kept.
func TestLongLists(t *testing.T) {
	const count = 200_000
	falling, mixed := make([]api.Hit, count), make([]api.Hit, count)
	for k := range count {
		falling[k] = hit(k, int64(-k))
		mixed[k] = hit(k*7919%count, int64(k*104729%count/2))
	}
	want := slices.Clone(mixed)
	slices.SortFunc(want, func(a, b api.Hit) int {
		if metric.Less(a, b) {
			return -1
		}
		return 1
	})
	for _, k := range []int{20, count / 2, count - 1, count, count + 1, math.MaxInt} {
		if got := best.Of(k, mixed...); !slices.Equal(got, want[:min(k, count)]) {
			t.Errorf("P10.1: Of(%d) of %d hits", k, count)
		}
		got := best.Of(k, falling...)
		if len(got) != min(k, count) || got[0] != hit(count-1, 1-count) || got[len(got)-1] != hit(count-len(got), int64(len(got)-count)) {
			t.Errorf("P10.1: Of(%d) of %d hits that get better", k, count)
		}
	}
}
