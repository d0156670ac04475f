package pool_test

import (
	"fmt"
	"maps"
	"math"
	"math/rand/v2"
	"slices"
	"testing"

	"fieldfare/api"
	"fieldfare/pool"
)

// wantSize holds what Size tells against the error that is asked for.
func wantSize(t *testing.T, p *pool.Pool, owner, blocks int, want api.Errno) {
	t.Helper()
	if got := p.Size(owner, blocks); got != want {
		t.Fatalf("P7.1: Size(%d, %d): %v, not %v", owner, blocks, got, want)
	}
}

// wantOf holds an owner's blocks against those that are asked for.
func wantOf(t *testing.T, p *pool.Pool, owner int, want ...int) {
	t.Helper()
	if got := p.Of(owner); !slices.Equal(got, want) {
		t.Errorf("P7.1: Of(%d): %v, not %v", owner, got, want)
	}
}

// wantFree holds how many blocks are free against how many there are to be.
func wantFree(t *testing.T, p *pool.Pool, want int) {
	t.Helper()
	if got := p.Free(); got != want {
		t.Errorf("P7.1: Free: %d, not %d", got, want)
	}
}

// wantOwners holds who has some against who is to have some.
func wantOwners(t *testing.T, p *pool.Pool, want ...int) {
	t.Helper()
	if got := p.Owners(); !slices.Equal(got, want) {
		t.Errorf("P7.1: Owners: %v, not %v", got, want)
	}
}

// upTo gives the numbers from 0 on, n of them.
func upTo(n int) []int {
	all := make([]int, n)
	for k := range all {
		all[k] = k
	}
	return all
}

func TestNewTakesTheNearerEnd(t *testing.T) {
	for _, x := range []struct{ n, want int }{
		{math.MinInt, 0}, {-1, 0}, {0, 0}, {1, 1}, {2, 2}, {api.Blocks, 64}, {999, 999}, {1000, 1000}, {1001, 1000}, {math.MaxInt, 1000},
	} {
		p := pool.New(x.n)
		if p == nil {
			t.Fatalf("P7.1: New(%d): nil", x.n)
		}
		wantFree(t, p, x.want)
		wantOwners(t, p)
		wantOf(t, p, 0)
		wantSize(t, p, 0, x.want+1, api.ErrCapacity)
		wantFree(t, p, x.want)
		wantSize(t, p, 0, x.want, api.OK)
		wantOf(t, p, 0, upTo(x.want)...)
		wantFree(t, p, 0)
		wantSize(t, p, 0, x.want+1, api.ErrCapacity)
		wantSize(t, p, 1, 1, api.ErrCapacity)
		wantSize(t, p, 1, 0, api.OK)
		wantOf(t, p, 0, upTo(x.want)...)
		wantOf(t, p, 1)
		wantSize(t, p, 0, 0, api.OK)
		wantFree(t, p, x.want)
		wantOwners(t, p)
	}
}

func TestMoreTakesTheLeastFreeOnes(t *testing.T) {
	p := pool.New(8)
	wantSize(t, p, 5, 2, api.OK)
	wantSize(t, p, 3, 2, api.OK)
	wantSize(t, p, 5, 4, api.OK)
	wantOf(t, p, 5, 0, 1, 4, 5)
	wantOf(t, p, 3, 2, 3)
	wantSize(t, p, 5, 1, api.OK)
	wantSize(t, p, 3, 6, api.OK)
	wantOf(t, p, 3, 1, 2, 3, 4, 5, 6)
	wantOf(t, p, 5, 0)
	wantFree(t, p, 1)
}

func TestFewerGivesTheGreatestBack(t *testing.T) {
	p := pool.New(6)
	wantSize(t, p, 1, 3, api.OK)
	wantSize(t, p, 2, 1, api.OK)
	wantSize(t, p, 1, 5, api.OK)
	wantOf(t, p, 1, 0, 1, 2, 4, 5)
	wantSize(t, p, 1, 4, api.OK)
	wantOf(t, p, 1, 0, 1, 2, 4)
	wantSize(t, p, 1, 2, api.OK)
	wantOf(t, p, 1, 0, 1)
	wantFree(t, p, 3)
	wantSize(t, p, 2, 2, api.OK)
	wantOf(t, p, 2, 2, 3)
	wantSize(t, p, 1, 0, api.OK)
	wantOf(t, p, 1)
	wantOwners(t, p, 2)
	wantFree(t, p, 4)
}

func TestTheSameNumberChangesNothing(t *testing.T) {
	p := pool.New(5)
	wantSize(t, p, 1, 1, api.OK)
	wantSize(t, p, 2, 2, api.OK)
	wantSize(t, p, 1, 0, api.OK)
	wantSize(t, p, 2, 2, api.OK)
	wantOf(t, p, 2, 1, 2)
	wantSize(t, p, 1, 0, api.OK)
	wantSize(t, p, 7, 0, api.OK)
	wantOwners(t, p, 2)
	wantFree(t, p, 3)
}

func TestAnyNumberIsAnOwner(t *testing.T) {
	p := pool.New(6)
	for _, owner := range []int{math.MaxInt, 0, -1, math.MinInt, 1} {
		wantOf(t, p, owner)
		wantSize(t, p, owner, 1, api.OK)
	}
	wantOwners(t, p, math.MinInt, -1, 0, 1, math.MaxInt)
	wantOf(t, p, math.MaxInt, 0)
	wantOf(t, p, 0, 1)
	wantOf(t, p, -1, 2)
	wantOf(t, p, math.MinInt, 3)
	wantOf(t, p, 1, 4)
	wantSize(t, p, 0, 0, api.OK)
	wantOwners(t, p, math.MinInt, -1, 1, math.MaxInt)
	wantOf(t, p, 0)
	wantFree(t, p, 2)
}

func TestWrongNumbersChangeNothing(t *testing.T) {
	p := pool.New(4)
	wantSize(t, p, 1, 2, api.OK)
	wantSize(t, p, 2, 1, api.OK)
	for _, owner := range []int{1, 2, 3, math.MinInt, math.MaxInt} {
		for _, blocks := range []int{-1, -2, math.MinInt} {
			wantSize(t, p, owner, blocks, api.ErrRange)
		}
		for _, blocks := range []int{4, 5, 1001, math.MaxInt} {
			wantSize(t, p, owner, blocks, api.ErrCapacity)
		}
	}
	wantSize(t, p, 2, 3, api.ErrCapacity)
	wantSize(t, p, 3, 2, api.ErrCapacity)
	wantOf(t, p, 1, 0, 1)
	wantOf(t, p, 2, 2)
	wantOf(t, p, 3)
	wantOwners(t, p, 1, 2)
	wantFree(t, p, 1)
	wantSize(t, p, 1, 3, api.OK)
	wantOf(t, p, 1, 0, 1, 3)
}

func TestNil(t *testing.T) {
	var none *pool.Pool
	for _, blocks := range []int{math.MinInt, -1, 0, 1, math.MaxInt} {
		wantSize(t, none, 1, blocks, api.ErrDown)
	}
	if none.Of(1) != nil || none.Free() != 0 || none.Owners() != nil {
		t.Errorf("P7.1: nil: %v, %d, %v", none.Of(1), none.Free(), none.Owners())
	}
}

func TestAPoolNotMadeByNewHasNoBlocks(t *testing.T) {
	var p pool.Pool
	wantSize(t, &p, 0, -1, api.ErrRange)
	wantSize(t, &p, 0, 1, api.ErrCapacity)
	wantSize(t, &p, 0, 0, api.OK)
	wantOf(t, &p, 0)
	wantOwners(t, &p)
	wantFree(t, &p, 0)
}

// overwrite writes into a list, its spare room too.
func overwrite(list []int) {
	list = list[:cap(list)]
	for k := range list {
		list[k] = 77
	}
}

func TestListsAreNewMemory(t *testing.T) {
	p := pool.New(9)
	wantSize(t, p, 1, 3, api.OK)
	wantSize(t, p, 2, 3, api.OK)
	blocks, owners := p.Of(1), p.Owners()
	overwrite(p.Of(1))
	overwrite(p.Owners())
	wantOf(t, p, 1, 0, 1, 2)
	wantOf(t, p, 2, 3, 4, 5)
	wantOwners(t, p, 1, 2)
	wantFree(t, p, 3)
	wantSize(t, p, 1, 5, api.OK)
	wantSize(t, p, 2, 0, api.OK)
	if !slices.Equal(blocks, []int{0, 1, 2}) || !slices.Equal(owners, []int{1, 2}) {
		t.Errorf("P0.3: what was told changed: %v, %v", blocks, owners)
	}
}

func TestPoolsAreApart(t *testing.T) {
	p, q := pool.New(3), pool.New(3)
	wantSize(t, p, 1, 3, api.OK)
	wantFree(t, q, 3)
	wantOwners(t, q)
	wantSize(t, q, 2, 2, api.OK)
	wantOf(t, q, 2, 0, 1)
	wantOf(t, p, 1, 0, 1, 2)
}

// plain is a pool as the chapter tells it: each owner's blocks, and the free ones, both rising.
type plain struct {
	free []int
	of   map[int][]int
}

// size does what Size is to do.
func (q *plain) size(owner, blocks int) api.Errno {
	has := q.of[owner]
	switch {
	case blocks < 0:
		return api.ErrRange
	case blocks > len(has)+len(q.free):
		return api.ErrCapacity
	}
	for len(has) < blocks {
		has, q.free = append(has, q.free[0]), q.free[1:]
		slices.Sort(has)
	}
	for len(has) > blocks {
		last := len(has) - 1
		q.free, has = append(slices.Clone(q.free), has[last]), has[:last]
		slices.Sort(q.free)
	}
	q.of[owner] = has
	if len(has) == 0 {
		delete(q.of, owner)
	}
	return api.OK
}

// line tells all of the plain pool.
func (q *plain) line() string {
	return fmt.Sprint(len(q.free), slices.Sorted(maps.Keys(q.of)), q.of)
}

// line tells all of a pool, in the same words.
func line(p *pool.Pool) string {
	of := map[int][]int{}
	for _, owner := range p.Owners() {
		of[owner] = p.Of(owner)
	}
	return fmt.Sprint(p.Free(), p.Owners(), of)
}

// TestOwnersTakeAndGiveBack lets many owners take, give back and take again, next to the plain pool.
func TestOwnersTakeAndGiveBack(t *testing.T) {
	draw := rand.New(rand.NewPCG(7, 1))
	for _, n := range []int{0, 1, 2, 7, 64, 1000} {
		p, q := pool.New(n), &plain{upTo(n), map[int][]int{}}
		for turn := range 400 {
			owner, blocks := draw.IntN(7)-3, draw.IntN(n/2+3)-1
			got, want := p.Size(owner, blocks), q.size(owner, blocks)
			if got != want || line(p) != q.line() {
				t.Fatalf("P7.1: of %d blocks, turn %d, Size(%d, %d): %v, %s, not %v, %s", n, turn, owner, blocks, got, line(p), want, q.line())
			}
		}
	}
}
