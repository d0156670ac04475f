package quant_test

import (
	"bytes"
	"math"
	"math/big"
	"math/rand/v2"
	"slices"
	"testing"

	"fieldfare/api"
	"fieldfare/quant"
	"fieldfare/vect"
)

const (
	least    = math.MinInt32
	greatest = math.MaxInt32
	low      = -1048576 // the least number of a vector
	top      = 1048576  // the greatest
)

// strangers are numbers that are no dim.
var strangers = []int{0, 9, -1, 10, -8, 100, 1 << 32, 1<<32 + 1, 1<<32 + 8, -1<<32 + 1, math.MaxInt, math.MinInt, math.MinInt + 1}

// unreadable are books of which nothing can be told.
var unreadable = []quant.Book{
	{Low: []int32{1}},
	{Step: []int32{1}},
	{Low: []int32{1}, Step: []int32{}},
	{Low: []int32{}, Step: []int32{1}},
	{Low: []int32{1, 2}, Step: []int32{1}},
	{Low: []int32{1}, Step: []int32{1, 2}},
	{Low: []int32{1}, Step: []int32{0}},
	{Low: []int32{1}, Step: []int32{-1}},
	{Low: []int32{1}, Step: []int32{least}},
	{Low: []int32{1, 2, 3}, Step: []int32{0, 1, 1}},
	{Low: []int32{1, 2, 3}, Step: []int32{1, 0, 1}},
	{Low: []int32{1, 2, 3}, Step: []int32{1, 1, -7}},
	{Low: make([]int32, 8), Step: slices.Repeat([]int32{9}, 9)},
}

// filled gives count times n.
func filled(count int, n int32) []int32 {
	return slices.Repeat([]int32{n}, count)
}

// book gives one of one place.
func book(low, step int32) quant.Book {
	return quant.Book{Low: []int32{low}, Step: []int32{step}}
}

// wantBook holds a book against the numbers that are wanted.
func wantBook(t *testing.T, got quant.Book, low, step []int32) {
	t.Helper()
	if !slices.Equal(got.Low, low) || !slices.Equal(got.Step, step) {
		t.Errorf("P11.1: Make: %v, not {%v %v}", got, low, step)
	}
}

// wantCode holds Code against want.
func wantCode(t *testing.T, b quant.Book, v api.Vec, want ...byte) {
	t.Helper()
	if got := quant.Code(b, v); !slices.Equal(got, want) {
		t.Errorf("P11.1: Code(%v, %v): %v, not %v", b, v, got, want)
	}
}

// wantBack holds Back against want.
func wantBack(t *testing.T, b quant.Book, c []byte, want ...int32) {
	t.Helper()
	if got := quant.Back(b, c); !slices.Equal(got, want) {
		t.Errorf("P11.1: Back(%v, %v): %v, not %v", b, c, got, want)
	}
}

// wantBound holds Bound against want.
func wantBound(t *testing.T, b quant.Book, want int32) {
	t.Helper()
	if got := quant.Bound(b); got != want {
		t.Errorf("P11.1: Bound(%v): %d, not %d", b, got, want)
	}
}

// wantNear holds all that Make promises of the vectors that it took: they come back, none off by more than Bound.
func wantNear(t *testing.T, b quant.Book, v api.Vec) {
	t.Helper()
	back := quant.Back(b, quant.Code(b, v))
	if len(back) != len(v) {
		t.Fatalf("P11.1: %v of %v comes back as %v", v, b, back)
	}
	for k, n := range v {
		if off := max(n-back[k], back[k]-n); off > quant.Bound(b) {
			t.Fatalf("P11.1: %v of %v comes back as %v, off by %d", v, b, back, off)
		}
	}
}

func TestMakeOfEachDim(t *testing.T) {
	all := []api.Vec{nil}
	for count := 1; count <= 10; count++ {
		all = append(all, filled(count, -3), filled(count, 507))
	}
	for dim := 1; dim <= 8; dim++ {
		wantBook(t, quant.Make(dim, all...), filled(dim, -3), filled(dim, 2))
		wantBook(t, quant.Make(dim), filled(dim, 0), filled(dim, 1))
	}
	for _, dim := range strangers {
		for _, vs := range [][]api.Vec{nil, {nil}, {{}}, all} {
			if b := quant.Make(dim, vs...); b.Low != nil || b.Step != nil {
				t.Errorf("P11.1: Make(%d): %v", dim, b)
			}
		}
	}
}

func TestMakeOfNone(t *testing.T) {
	for _, vs := range [][]api.Vec{nil, {}, {nil}, {{}}, {{1}, {1, 2, 3}}, {{top + 1, 0}, {0, low - 1}, {least, greatest}}} {
		b := quant.Make(2, vs...)
		wantBook(t, b, []int32{0, 0}, []int32{1, 1})
		wantBound(t, b, 1)
	}
}

func TestMakeLeavesOutWhatMayNotBe(t *testing.T) {
	wrong := []api.Vec{nil, {}, {-900}, {900}, {-900, -900, -900}, {top + 1, 0}, {0, top + 1}, {low - 1, -900}, {-900, low - 1}, {greatest, 900}, {900, least}, filled(9, 900)}
	right := []api.Vec{{5, 40}, {300, -20}, {7, 7}}
	for at := range len(right) + 1 {
		vs := slices.Insert(slices.Clone(right), at, wrong...)
		wantBook(t, quant.Make(2, vs...), []int32{5, -20}, []int32{2, 1})
	}
	mixed := []api.Vec{}
	for k, v := range wrong {
		mixed = append(mixed, v, right[k%len(right)])
	}
	wantBook(t, quant.Make(2, mixed...), []int32{5, -20}, []int32{2, 1})
}

func TestMakeLooksAtNoSpareRoom(t *testing.T) {
	v := api.Vec{1, 2, 900}
	wantBook(t, quant.Make(2, v[:2], v[:1]), []int32{1, 2}, []int32{1, 1})
}

func TestMakeWhereAllAreAlike(t *testing.T) {
	for _, n := range []int32{0, 1, -1, 77, -77, top, low} {
		for _, count := range []int{1, 2, 5} {
			vs := slices.Repeat([]api.Vec{{n, 3}}, count)
			b := quant.Make(2, vs...)
			wantBook(t, b, []int32{n, 3}, []int32{1, 1})
			wantCode(t, b, vs[0], 0, 0)
			wantBack(t, b, []byte{0, 0}, n, 3)
		}
	}
	wantBook(t, quant.Make(3, api.Vec{9, 1, 4}, api.Vec{9, 2, -600}), []int32{9, 1, -600}, []int32{1, 1, 3})
}

// TestMakeOfOneSideOfZero has numbers that are all above 0, or all below, so that a 0 from elsewhere would show.
func TestMakeOfOneSideOfZero(t *testing.T) {
	wantBook(t, quant.Make(2, api.Vec{1000, -2000}, api.Vec{2000, -1000}), []int32{1000, -2000}, []int32{4, 4})
	wantBook(t, quant.Make(2, api.Vec{top, low}, api.Vec{top - 255, low + 256}), []int32{top - 255, low}, []int32{1, 2})
}

func TestMakeTakesEachOrder(t *testing.T) {
	vs := []api.Vec{{5, 1}, {-8, 600}, {255, 30}, {-256, -1}}
	for i := range vs {
		for k := range vs {
			vs[i], vs[k] = vs[k], vs[i]
			wantBook(t, quant.Make(2, vs...), []int32{-256, -1}, []int32{3, 3})
		}
	}
}

// TestMakeReachesJust has, for each Step, a greatest number that it just reaches, and one that it misses by one.
func TestMakeReachesJust(t *testing.T) {
	for step := int32(1); step <= 8224; step++ {
		for _, from := range []int32{0, -77, low, top - 255*step - 1} {
			reach := from + 255*step
			if reach >= top {
				continue
			}
			wantBook(t, quant.Make(1, api.Vec{reach}, api.Vec{from}), []int32{from}, []int32{step})
			wantBook(t, quant.Make(1, api.Vec{from}, api.Vec{reach - 1}), []int32{from}, []int32{step})
			wantBook(t, quant.Make(1, api.Vec{from}, api.Vec{reach + 1}), []int32{from}, []int32{step + 1})
		}
		if t.Failed() {
			t.FailNow()
		}
	}
	wantBook(t, quant.Make(1, api.Vec{low}, api.Vec{top}), []int32{low}, []int32{8225})
	wantBook(t, quant.Make(1, api.Vec{low + 1}, api.Vec{low}), []int32{low}, []int32{1})
}

func TestMakeAtTheEndsOfWhatMayBe(t *testing.T) {
	for dim := 1; dim <= 8; dim++ {
		vs := []api.Vec{filled(dim, top), filled(dim, low)}
		b := quant.Make(dim, vs...)
		wantBook(t, b, filled(dim, low), filled(dim, 8225))
		wantBound(t, b, 4113)
		// 255 steps lead beyond the top; what comes back is kept to it.
		wantCode(t, b, vs[0], slices.Repeat([]byte{255}, dim)...)
		wantBack(t, b, quant.Code(b, vs[0]), filled(dim, top)...)
		wantBack(t, b, quant.Code(b, vs[1]), filled(dim, low)...)
	}
}

func TestCode(t *testing.T) {
	b := quant.Book{Low: []int32{-10, 0, 1000}, Step: []int32{4, 1, 5}}
	for _, x := range []struct {
		v    api.Vec
		want []byte
	}{
		{api.Vec{-10, 0, 1000}, []byte{0, 0, 0}},
		{api.Vec{-6, 1, 1005}, []byte{1, 1, 1}},
		{api.Vec{0, 100, 1500}, []byte{3, 100, 100}},
		{api.Vec{1010, 255, 2275}, []byte{255, 255, 255}},
		{api.Vec{1006, 254, 2270}, []byte{254, 254, 254}},
		{api.Vec{-11, -1, 999}, []byte{0, 0, 0}},
		{api.Vec{low, low, low}, []byte{0, 0, 0}},
		{api.Vec{top, top, top}, []byte{255, 255, 255}},
		{api.Vec{least, least, least}, []byte{0, 0, 0}},
		{api.Vec{greatest, greatest, greatest}, []byte{255, 255, 255}},
	} {
		wantCode(t, b, x.v, x.want...)
	}
}

// TestCodeOfAHalf goes around the numbers between two steps: with an even Step the half itself goes up, with an odd one
// there is none.
func TestCodeOfAHalf(t *testing.T) {
	for _, x := range []struct {
		step, n int32
		want    byte
	}{
		{1, 0, 0}, {1, 1, 1}, {1, 2, 2},
		{2, 0, 0}, {2, 1, 1}, {2, 2, 1}, {2, 3, 2}, {2, 4, 2},
		{3, 1, 0}, {3, 2, 1}, {3, 3, 1}, {3, 4, 1}, {3, 5, 2},
		{4, 1, 0}, {4, 2, 1}, {4, 5, 1}, {4, 6, 2},
		{5, 2, 0}, {5, 3, 1}, {5, 7, 1}, {5, 8, 2},
		{10, 4, 0}, {10, 5, 1}, {10, 14, 1}, {10, 15, 2}, {10, 2544, 254}, {10, 2545, 255}, {10, 2554, 255}, {10, 2555, 255},
		{11, 5, 0}, {11, 6, 1}, {11, 2799, 254}, {11, 2800, 255},
		// Below Low a number is half a step off, or more, or less.
		{4, -1, 0}, {4, -2, 0}, {4, -3, 0}, {4, -4, 0}, {4, -7, 0}, {5, -2, 0}, {5, -3, 0}, {5, -8, 0}, {1, -1, 0},
		{8225, 4111, 0}, {8225, 4112, 0}, {8225, 4113, 1}, {8224, 4111, 0}, {8224, 4112, 1},
	} {
		for _, from := range []int32{0, 100, -100, low} {
			wantCode(t, book(from, x.step), api.Vec{from + x.n}, x.want)
		}
	}
}

// TestCodeBeyondTheEnds goes on from 0 and 255 to numbers whose lowest eight bits are another code.
func TestCodeBeyondTheEnds(t *testing.T) {
	for _, step := range []int32{1, 2, 3, 7, 8, 4096, 8225} {
		for over := range int32(600) {
			wantCode(t, book(0, step), api.Vec{255*step + over*step}, 255)
			wantCode(t, book(0, step), api.Vec{-over * step}, 0)
			wantCode(t, book(0, step), api.Vec{-over}, 0)
		}
	}
	wantCode(t, book(0, 1), api.Vec{256}, 255)
	wantCode(t, book(0, 1), api.Vec{1 << 30}, 255)
}

func TestCodeOfAnotherLength(t *testing.T) {
	for places := range 20 {
		b := quant.Book{Low: filled(places, -100), Step: filled(places, 10)}
		for count := range 20 {
			want := make([]byte, places)
			for k := range min(places, count) {
				want[k] = 12
			}
			wantCode(t, b, filled(count, 15), want...)
		}
		wantCode(t, b, nil, make([]byte, places)...)
	}
	v := api.Vec{1, 2, 3}
	wantCode(t, quant.Book{Low: filled(3, 0), Step: filled(3, 1)}, v[:1], 1, 0, 0)
}

func TestBack(t *testing.T) {
	b := quant.Book{Low: []int32{-10, 0, 1000}, Step: []int32{4, 1, 5}}
	wantBack(t, b, []byte{0, 0, 0}, -10, 0, 1000)
	wantBack(t, b, []byte{1, 1, 1}, -6, 1, 1005)
	wantBack(t, b, []byte{127, 128, 129}, 498, 128, 1645)
	wantBack(t, b, []byte{255, 255, 255}, 1010, 255, 2275)
}

func TestBackOfAnotherLength(t *testing.T) {
	for places := range 20 {
		b := quant.Book{Low: filled(places, -100), Step: filled(places, 10)}
		for count := range 20 {
			want := filled(places, -100)
			for k := range min(places, count) {
				want[k] = -30
			}
			wantBack(t, b, slices.Repeat([]byte{7}, count), want...)
		}
		wantBack(t, b, nil, filled(places, -100)...)
	}
	c := []byte{1, 2, 3}
	wantBack(t, quant.Book{Low: filled(3, 0), Step: filled(3, 1)}, c[:1], 1, 0, 0)
}

func TestBackIsKept(t *testing.T) {
	for _, x := range []struct {
		low, step int32
		code      byte
		want      int32
	}{
		{top - 255, 1, 254, top - 1},
		{top - 255, 1, 255, top},
		{top - 254, 1, 254, top},
		{top - 254, 1, 255, top},
		{top, 1, 0, top},
		{top, 1, 1, top},
		{top + 1, 1, 0, top},
		{top - 1, 1, 0, top - 1},
		{low, 1, 0, low},
		{low - 1, 1, 0, low},
		{low - 1, 1, 1, low},
		{low - 1, 1, 2, low + 1},
		{low - 255, 1, 254, low},
		{low - 255, 1, 255, low},
		{low - 255, 2, 255, low + 255},
		{low, 8225, 254, 1040574},
		{low, 8225, 255, top},
		{greatest, 1, 0, top},
		{greatest, 1, 1, top},
		{greatest, greatest, 255, top},
		{0, greatest, 0, 0},
		{0, greatest, 1, top},
		{0, greatest, 2, top},
		{0, greatest, 255, top},
		{least, 1, 0, low},
		{least, 1, 255, low},
		{least, greatest, 1, -1},
		{least, greatest, 2, top},
		{least, greatest, 255, top},
		{least, 1 << 23, 255, low},
		{least, 1 << 24, 128, 0},
	} {
		wantBack(t, book(x.low, x.step), []byte{x.code}, x.want)
		if x.code == 0 {
			wantBack(t, book(x.low, x.step), nil, x.want)
		}
	}
}

func TestBound(t *testing.T) {
	for _, x := range []struct {
		step []int32
		want int32
	}{
		{nil, 0},
		{[]int32{}, 0},
		{[]int32{1}, 1},
		{[]int32{2}, 1},
		{[]int32{3}, 2},
		{[]int32{4}, 2},
		{[]int32{5}, 3},
		{[]int32{8224}, 4112},
		{[]int32{8225}, 4113},
		{[]int32{greatest}, 1 << 30},
		{[]int32{greatest - 1}, 1<<30 - 1},
		{[]int32{9, 1, 1}, 5},
		{[]int32{1, 9, 1}, 5},
		{[]int32{1, 1, 9}, 5},
		{[]int32{10, 9, 8, 7}, 5},
		{[]int32{7, greatest}, 1 << 30},
		{filled(100, 6), 3},
	} {
		wantBound(t, quant.Book{Low: make([]int32, len(x.step)), Step: x.step}, x.want)
		wantBound(t, quant.Book{Low: filled(len(x.step), least), Step: x.step}, x.want)
	}
}

// TestAZeroBook asks the zero one, and those that count as one.
func TestAZeroBook(t *testing.T) {
	books := append([]quant.Book{{}, {Low: []int32{}, Step: []int32{}}, quant.Make(0), quant.Make(9, filled(9, 5))}, unreadable...)
	for _, b := range books {
		for _, v := range []api.Vec{nil, {}, {5}, {5, 6, 7}, filled(9, greatest)} {
			if got := quant.Code(b, v); len(got) != 0 {
				t.Errorf("P11.1: Code(%v, %v): %v", b, v, got)
			}
		}
		for _, c := range [][]byte{nil, {}, {5}, {5, 6, 7}, slices.Repeat([]byte{255}, 9)} {
			if got := quant.Back(b, c); len(got) != 0 {
				t.Errorf("P11.1: Back(%v, %v): %v", b, c, got)
			}
		}
		wantBound(t, b, 0)
	}
}

func TestABookLooksAtNoSpareRoom(t *testing.T) {
	lows, steps := []int32{10, 20, 30}, []int32{1, 2, -1}
	b := quant.Book{Low: lows[:2], Step: steps[:2]}
	wantCode(t, b, api.Vec{12, 22, 32}, 2, 1)
	wantBack(t, b, []byte{2, 1, 1}, 12, 22)
	wantBound(t, b, 1)
	b = quant.Book{Low: lows, Step: steps[:2]}
	wantCode(t, b, api.Vec{12, 22, 32})
	wantBack(t, b, []byte{2, 1, 1})
	wantBound(t, b, 0)
}

// TestALongBook has more places than a vector may have; a book that was handed in may.
func TestALongBook(t *testing.T) {
	const count = 5000
	b := quant.Book{Low: filled(count, -7), Step: filled(count, 2)}
	wantCode(t, b, filled(count, 3), slices.Repeat([]byte{5}, count)...)
	wantBack(t, b, slices.Repeat([]byte{5}, count), filled(count, 3)...)
	wantBound(t, b, 1)
}

// TestEachNumberOfAReach goes through all numbers of some reaches, each back as near as is promised.
func TestEachNumberOfAReach(t *testing.T) {
	for reach := int32(0); reach <= 1100; reach++ {
		from := reach*37 - 20000
		b := quant.Make(1, api.Vec{from + reach}, api.Vec{from})
		for n := from; n <= from+reach; n++ {
			wantNear(t, b, api.Vec{n})
		}
	}
	for _, reach := range []int32{255 * 8224, 2 * top} {
		b := quant.Make(1, api.Vec{low}, api.Vec{low + reach})
		for n := int32(low); n <= low+reach; n++ {
			wantNear(t, b, api.Vec{n})
		}
	}
}

// TestEachCode goes from a code to its number and back again.
func TestEachCode(t *testing.T) {
	for _, step := range []int32{1, 2, 3, 4, 5, 100, 4095, 4096} {
		for _, from := range []int32{low, -5, 0, 5, top - 255*step} {
			for code := range 256 {
				wantBack(t, book(from, step), []byte{byte(code)}, from+step*int32(code))
				wantCode(t, book(from, step), quant.Back(book(from, step), []byte{byte(code)}), byte(code))
			}
		}
	}
}

// TestDrawsComeBack draws vectors, some of which may not be, and holds the book against the chapter's words.
func TestDrawsComeBack(t *testing.T) {
	draw := rand.New(rand.NewPCG(11, 1))
	for range 5000 {
		dim := 1 + draw.IntN(8)
		shift := draw.IntN(32)
		var all, right []api.Vec
		for range draw.IntN(12) {
			v := make(api.Vec, dim)
			if draw.IntN(6) == 0 {
				v = make(api.Vec, draw.IntN(10))
			}
			for k := range v {
				v[k] = int32(draw.Uint32()) >> max(shift, draw.IntN(32))
			}
			all = append(all, v)
			if vect.May(v, dim) {
				right = append(right, v)
			}
		}
		b := quant.Make(dim, all...)
		wantLeast(t, b, dim, right)
		for _, v := range right {
			wantNear(t, b, v)
		}
		if t.Failed() {
			t.FailNow()
		}
	}
}

// wantLeast holds a book against the vectors that count: Low is the least number of each place, and no lesser Step
// reaches the greatest.
func wantLeast(t *testing.T, b quant.Book, dim int, vs []api.Vec) {
	t.Helper()
	if len(b.Low) != dim || len(b.Step) != dim {
		t.Fatalf("P11.1: Make(%d): %v", dim, b)
	}
	for k := range dim {
		column := []int32{}
		for _, v := range vs {
			column = append(column, v[k])
		}
		if len(column) == 0 {
			column = []int32{0}
		}
		from, to, step := slices.Min(column), slices.Max(column), b.Step[k]
		if b.Low[k] != from || step < 1 || from+255*step < to || step > 1 && from+255*(step-1) >= to {
			t.Errorf("P11.1: Make of %v: %v, at %d", vs, b, k)
		}
	}
}

// anyNumber draws one of 32 bits, small ones and those at the ends as likely as others.
func anyNumber(draw *rand.Rand) int32 {
	switch draw.IntN(8) {
	case 0:
		return least + int32(draw.IntN(3))
	case 1:
		return greatest - int32(draw.IntN(3))
	}
	return int32(draw.Uint32()) >> draw.IntN(32)
}

// exactCode gives a code as it is beyond all bits, divided towards below.
func exactCode(low, step, n int32) byte {
	sum := new(big.Int).Sub(big.NewInt(int64(n)), big.NewInt(int64(low)))
	sum.Add(sum, new(big.Int).Div(big.NewInt(int64(step)), big.NewInt(2)))
	// Div goes towards below where the divisor is above 0.
	code := sum.Div(sum, big.NewInt(int64(step)))
	if code.Sign() < 0 {
		return 0
	}
	if code.Cmp(big.NewInt(255)) > 0 {
		return 255
	}
	return byte(code.Int64())
}

// exactBack gives what comes back, as it is beyond all bits.
func exactBack(low, step int32, code byte) int32 {
	n := new(big.Int).Mul(big.NewInt(int64(step)), big.NewInt(int64(code)))
	n.Add(n, big.NewInt(int64(low)))
	if n.Cmp(big.NewInt(api.MaxCoord)) > 0 {
		return api.MaxCoord
	}
	if n.Cmp(big.NewInt(-api.MaxCoord)) < 0 {
		return -api.MaxCoord
	}
	return int32(n.Int64())
}

// TestAnyNumbers draws books, vectors and codes of any numbers and lengths.
func TestAnyNumbers(t *testing.T) {
	draw := rand.New(rand.NewPCG(11, 2))
	for range 40000 {
		places := draw.IntN(10)
		b := quant.Book{Low: make([]int32, places), Step: make([]int32, places)}
		wrong, bound := false, int32(0)
		for k := range places {
			b.Low[k], b.Step[k] = anyNumber(draw), anyNumber(draw)
			if b.Step[k] < 0 && draw.IntN(10) > 0 {
				b.Step[k] = ^b.Step[k]
			}
			wrong = wrong || b.Step[k] < 1
			bound = max(bound, b.Step[k]/2+b.Step[k]%2)
		}
		v, c := make(api.Vec, draw.IntN(10)), make([]byte, draw.IntN(10))
		for k := range v {
			v[k] = anyNumber(draw)
		}
		for k := range c {
			c[k] = byte(draw.Uint32())
		}
		if wrong {
			wantCode(t, b, v)
			wantBack(t, b, c)
			wantBound(t, b, 0)
			continue
		}
		wantExact(t, b, v, c)
		wantBound(t, b, bound)
		if t.Failed() {
			t.FailNow()
		}
	}
}

// wantExact holds Code and Back against sums that have no end of bits.
func wantExact(t *testing.T, b quant.Book, v api.Vec, c []byte) {
	t.Helper()
	code, back := make([]byte, len(b.Low)), make([]int32, len(b.Low))
	for k := range b.Low {
		if k < len(v) {
			code[k] = exactCode(b.Low[k], b.Step[k], v[k])
		}
		from := byte(0)
		if k < len(c) {
			from = c[k]
		}
		back[k] = exactBack(b.Low[k], b.Step[k], from)
	}
	wantCode(t, b, v, code...)
	wantBack(t, b, c, back...)
}

// overwrite writes into a list, its spare room too.
func overwrite[N int32 | byte](list []N) {
	list = list[:cap(list)]
	for k := range list {
		list[k] = 77
	}
}

func TestMakeSharesNothing(t *testing.T) {
	vs := []api.Vec{{1, 2}, {3, 600}}
	for range 2 {
		one, two := quant.Make(2, vs...), quant.Make(2, vs...)
		overwrite(one.Low)
		wantBook(t, quant.Book{Low: two.Low, Step: one.Step}, []int32{1, 2}, []int32{1, 3})
		overwrite(one.Step)
		_, _ = append(one.Low, 66, 66), append(one.Step, 66, 66)
		wantBook(t, two, []int32{1, 2}, []int32{1, 3})
	}
	if !vect.Eq(vs[0], api.Vec{1, 2}) || !vect.Eq(vs[1], api.Vec{3, 600}) {
		t.Errorf("P0.3: %v", vs)
	}
	// One vector alone has the numbers of Low, and its memory is not Low's.
	lone := api.Vec{1, 2}
	b := quant.Make(2, lone)
	overwrite(lone)
	wantBook(t, b, []int32{1, 2}, []int32{1, 1})
	none, other := quant.Make(2), quant.Make(2)
	overwrite(none.Low)
	overwrite(none.Step)
	wantBook(t, other, []int32{0, 0}, []int32{1, 1})
	wantBook(t, quant.Make(2), []int32{0, 0}, []int32{1, 1})
}

func TestCodeAndBackShareNothing(t *testing.T) {
	b := quant.Book{Low: []int32{0, 5}, Step: []int32{1, 2}}
	v, c := api.Vec{3, 9}, []byte{3, 2}
	code, otherCode := quant.Code(b, v), quant.Code(b, v)
	back, otherBack := quant.Back(b, c), quant.Back(b, c)
	overwrite(code)
	overwrite(back)
	_, _ = append(code, 66, 66), append(back, 66, 66)
	if !bytes.Equal(otherCode, []byte{3, 2}) || !vect.Eq(otherBack, api.Vec{3, 9}) {
		t.Errorf("P0.3: who writes into an answer changes another: %v, %v", otherCode, otherBack)
	}
	if !vect.Eq(v, api.Vec{3, 9}) || !bytes.Equal(c, []byte{3, 2}) {
		t.Errorf("P0.3: who writes into an answer changes what was handed in: %v, %v", v, c)
	}
	wantBook(t, b, []int32{0, 5}, []int32{1, 2})
	overwrite(v)
	overwrite(c)
	overwrite(b.Low)
	overwrite(b.Step)
	if !bytes.Equal(otherCode, []byte{3, 2}) || !vect.Eq(otherBack, api.Vec{3, 9}) {
		t.Errorf("P0.3: who writes into what was handed in changes an answer: %v, %v", otherCode, otherBack)
	}
}

// TestArgumentsAreNotChanged hands in lists with room behind them, and looks at that too.
func TestArgumentsAreNotChanged(t *testing.T) {
	numbers, codes := []int32{1, 2, 3, 4}, []byte{5, 6, 7, 8}
	lows, steps := []int32{-10, 20, 30, 40}, []int32{3, 4, 5, 6}
	list := []api.Vec{numbers[:2], {9, 9}, {8}, {7, 7}}
	b := quant.Book{Low: lows[:3], Step: steps[:3]}
	quant.Make(2, list[:2]...)
	quant.Make(3, list[:2]...)
	quant.Code(b, numbers[:2])
	quant.Back(b, codes[:2])
	quant.Bound(b)
	quant.Code(quant.Book{Low: lows[:2], Step: steps[:3]}, numbers[:2])
	quant.Back(quant.Book{Low: lows[:2], Step: steps[:3]}, codes[:2])
	if !slices.Equal(numbers, []int32{1, 2, 3, 4}) || !bytes.Equal(codes, []byte{5, 6, 7, 8}) {
		t.Errorf("P0.3: %v, %v", numbers, codes)
	}
	if !slices.Equal(lows, []int32{-10, 20, 30, 40}) || !slices.Equal(steps, []int32{3, 4, 5, 6}) {
		t.Errorf("P0.3: %v, %v", lows, steps)
	}
	for k, want := range []api.Vec{{1, 2}, {9, 9}, {8}, {7, 7}} {
		if !vect.Eq(list[k], want) {
			t.Errorf("P0.3: %v", list)
		}
	}
}
