package vect_test

import (
	"bytes"
	"math"
	"math/rand/v2"
	"slices"
	"testing"

	"fieldfare/api"
	"fieldfare/bin"
	"fieldfare/vect"
)

// written gives the bytes of some numbers.
func written(ns ...int64) []byte {
	var w bin.Writer
	w.Int(ns...)
	return w.Bytes()
}

// put gives the bytes of a vector.
func put(v api.Vec) []byte {
	var w bin.Writer
	vect.Put(&w, v)
	return w.Bytes()
}

// filled gives a vector of count times n.
func filled(count int, n int32) api.Vec {
	return slices.Repeat(api.Vec{n}, count)
}

// overwrite writes into a vector, its spare room too.
func overwrite(v api.Vec) {
	v = v[:cap(v)]
	for k := range v {
		v[k] = 77
	}
}

func TestMayOfEachDimAndLength(t *testing.T) {
	for _, dim := range []int{math.MinInt, -8, -1, 0, 1, 2, 3, 4, 5, 6, 7, 8, 9, 10, 100, 1 << 32, 1<<32 + 1, math.MaxInt} {
		for _, count := range []int{0, 1, 2, 3, 4, 5, 6, 7, 8, 9, 10, 100} {
			want := dim >= 1 && dim <= 8 && count == dim
			if got := vect.May(make(api.Vec, count), dim); got != want {
				t.Errorf("P8.1: May of %d numbers, %d: %v", count, dim, got)
			}
		}
		if vect.May(nil, dim) {
			t.Errorf("P8.1: May(nil, %d)", dim)
		}
	}
}

func TestMayHoldsEachNumberAgainstTheEdges(t *testing.T) {
	for _, x := range []struct {
		n    int32
		want bool
	}{
		{0, true}, {1, true}, {-1, true}, {1048575, true}, {1048576, true}, {1048577, false}, {-1048575, true}, {-1048576, true}, {-1048577, false},
		{math.MaxInt32, false}, {math.MaxInt32 - 1, false}, {math.MinInt32, false}, {math.MinInt32 + 1, false}, {1 << 21, false}, {-1 << 21, false},
	} {
		for dim := 1; dim <= 8; dim++ {
			if got := vect.May(filled(dim, x.n), dim); got != x.want {
				t.Errorf("P8.1: May of %d times %d: %v", dim, x.n, got)
			}
			for at := range dim {
				v := make(api.Vec, dim)
				v[at] = x.n
				if got := vect.May(v, dim); got != x.want {
					t.Errorf("P8.1: May(%v, %d): %v", v, dim, got)
				}
			}
		}
	}
}

func TestMayLooksAtNoSpareRoom(t *testing.T) {
	v := api.Vec{1, 2, math.MaxInt32}
	if !vect.May(v[:2], 2) || vect.May(v[:2], 3) {
		t.Error("P8.1: May of two numbers with a wrong one behind them")
	}
}

func TestEq(t *testing.T) {
	for _, x := range []struct {
		a, b api.Vec
		want bool
	}{
		{nil, nil, true},
		{nil, api.Vec{}, true},
		{api.Vec{}, nil, true},
		{nil, api.Vec{0}, false},
		{api.Vec{0}, nil, false},
		{api.Vec{1}, api.Vec{1}, true},
		{api.Vec{1}, api.Vec{-1}, false},
		{api.Vec{1, 2}, api.Vec{2, 1}, false},
		{api.Vec{1, 2}, api.Vec{1, 2, 0}, false},
		{api.Vec{1, 2, 0}, api.Vec{1, 2}, false},
		{api.Vec{math.MaxInt32}, api.Vec{math.MinInt32}, false},
		{api.Vec{math.MinInt32}, api.Vec{math.MinInt32}, true},
		{filled(9, 1<<21), filled(9, 1<<21), true},
		{filled(9, 1<<21), filled(10, 1<<21), false},
		{filled(1000, 3), filled(1000, 3), true},
	} {
		if got := vect.Eq(x.a, x.b); got != x.want {
			t.Errorf("P8.1: Eq(%v, %v): %v", x.a, x.b, got)
		}
	}
	for count := 1; count <= 9; count++ {
		for at := range count {
			a, b := filled(count, 5), filled(count, 5)
			b[at] = 6
			if vect.Eq(a, b) || vect.Eq(b, a) {
				t.Errorf("P8.1: Eq(%v, %v)", a, b)
			}
		}
	}
	room := api.Vec{1, 2, 3}
	if !vect.Eq(room[:2], api.Vec{1, 2}) || vect.Eq(room[:2], room) {
		t.Error("P8.1: Eq looks at the spare room")
	}
}

func TestPutWritesHowManyAndEach(t *testing.T) {
	for _, x := range []struct {
		v    api.Vec
		want []byte
	}{
		{nil, []byte{0}},
		{api.Vec{}, []byte{0}},
		{api.Vec{0}, []byte{1, 1, 0}},
		{api.Vec{5, -300, 0}, []byte{1, 3, 1, 5, 2, 0xd4, 0xfe, 0}},
		{api.Vec{1048576, -1048576}, []byte{1, 2, 3, 0, 0, 0x10, 3, 0, 0, 0xf0}},
		{api.Vec{1048577, -1048577}, []byte{1, 2, 3, 1, 0, 0x10, 3, 0xff, 0xff, 0xef}},
		{api.Vec{math.MaxInt32, math.MinInt32}, []byte{1, 2, 4, 0xff, 0xff, 0xff, 0x7f, 4, 0, 0, 0, 0x80}},
		{make(api.Vec, 8), []byte{1, 8, 0, 0, 0, 0, 0, 0, 0, 0}},
		{make(api.Vec, 9), []byte{1, 9, 0, 0, 0, 0, 0, 0, 0, 0, 0}},
		{make(api.Vec, 300), append([]byte{2, 0x2c, 1}, make([]byte, 300)...)},
	} {
		if got := put(x.v); !bytes.Equal(got, x.want) {
			t.Errorf("P8.1: Put(%v): %x, not %x", x.v, got, x.want)
		}
	}
}

func TestPutGoesOnBehindWhatStands(t *testing.T) {
	var w bin.Writer
	w.Text("a")
	vect.Put(&w, api.Vec{1, 2})
	vect.Put(&w, nil)
	vect.Put(&w, api.Vec{-3})
	w.Int(4)
	want := []byte{1, 1, 'a', 1, 2, 1, 1, 1, 2, 0, 1, 1, 1, 0xfd, 1, 4}
	if !bytes.Equal(w.Bytes(), want) {
		t.Errorf("P8.1: Put: %x, not %x", w.Bytes(), want)
	}
	r := bin.NewReader(w.Bytes())
	if r.Text(1) != "a" || !vect.Eq(vect.Get(r), api.Vec{1, 2}) || !vect.Eq(vect.Get(r), nil) || !vect.Eq(vect.Get(r), api.Vec{-3}) || r.Int() != 4 || r.End() != api.OK {
		t.Error("P8.1: Get of several")
	}
}

// TestGet tells the numbers, the vector that they give, and what is read behind it.
func TestGet(t *testing.T) {
	const least, greatest = math.MinInt32, math.MaxInt32
	for _, x := range []struct {
		ns     []int64
		want   api.Vec
		behind int64
	}{
		{[]int64{0, 9}, api.Vec{}, 9},
		{[]int64{1, 0, 9}, api.Vec{0}, 9},
		{[]int64{1, -5, 9}, api.Vec{-5}, 9},
		{[]int64{3, 5, -300, 0, 9}, api.Vec{5, -300, 0}, 9},
		{[]int64{8, 1, 2, 3, 4, 5, 6, 7, 8, 9}, api.Vec{1, 2, 3, 4, 5, 6, 7, 8}, 9},
		{[]int64{2, 1048577, -1048577, 9}, api.Vec{1048577, -1048577}, 9},
		{[]int64{4, greatest, least, greatest - 1, least + 1, 9}, api.Vec{greatest, least, greatest - 1, least + 1}, 9},
		// Of too few or too many how many alone is read.
		{[]int64{-1, 6, 7}, nil, 6},
		{[]int64{-8, 6, 7}, nil, 6},
		{[]int64{9, 6, 7, 1, 1, 1, 1, 1, 1, 1, 8}, nil, 6},
		{[]int64{1 << 32, 6, 7}, nil, 6},
		{[]int64{1<<32 + 1, 6, 7}, nil, 6},
		{[]int64{1<<32 - 1, 6, 7}, nil, 6},
		{[]int64{-1<<32 + 1, 6, 7}, nil, 6},
		{[]int64{math.MaxInt64, 6, 7}, nil, 6},
		{[]int64{math.MinInt64, 6, 7}, nil, 6},
		// Behind one that has more than 32 bits the others are read.
		{[]int64{1, greatest + 1, 9}, nil, 9},
		{[]int64{1, least - 1, 9}, nil, 9},
		{[]int64{1, 1 << 32, 9}, nil, 9},
		{[]int64{1, 1<<32 + 5, 9}, nil, 9},
		{[]int64{1, math.MaxInt64, 9}, nil, 9},
		{[]int64{1, math.MinInt64, 9}, nil, 9},
		{[]int64{3, greatest + 1, 4, 5, 9}, nil, 9},
		{[]int64{3, 4, least - 1, 5, 9}, nil, 9},
		{[]int64{3, 4, 5, greatest + 1, 9}, nil, 9},
		{[]int64{8, least - 1, 1, 2, 3, 4, 5, 6, greatest + 1, 9}, nil, 9},
	} {
		r := bin.NewReader(written(x.ns...))
		v := vect.Get(r)
		if !slices.Equal(v, x.want) || (v == nil) != (x.want == nil) || r.Err() != api.OK {
			t.Errorf("P8.1: Get of %v: %#v, %v, not %#v", x.ns, v, r.Err(), x.want)
		}
		if n := r.Int(); n != x.behind {
			t.Errorf("P8.1: behind Get of %v: %d, not %d", x.ns, n, x.behind)
		}
	}
}

func TestGetOfATextThatIsCutOff(t *testing.T) {
	for _, v := range []api.Vec{nil, {0}, {5, -300, 0}, {math.MaxInt32, math.MinInt32}, filled(8, 0), filled(8, -1048576)} {
		b := put(v)
		for k := range b {
			r := bin.NewReader(b[:k])
			if got := vect.Get(r); got != nil || r.Err() != api.ErrForm {
				t.Errorf("P8.1: Get of %x of %x: %v, %v", b[:k], b, got, r.Err())
			}
		}
	}
}

func TestGetOfBytesThatAreNoNumbers(t *testing.T) {
	for _, b := range [][]byte{nil, {9}, {1, 0}, {1}, {1, 1, 9}, {1, 1, 1, 0}, {1, 2, 1, 5, 0xff}, {1, 2, 5, 0, 0, 0, 0x80, 0, 9}} {
		r := bin.NewReader(b)
		if got := vect.Get(r); got != nil || r.Err() != api.ErrForm {
			t.Errorf("P8.1: Get of %x: %v, %v", b, got, r.Err())
		}
		// The first error is for good.
		if got := vect.Get(r); got != nil || r.Err() != api.ErrForm {
			t.Errorf("P8.1: Get behind the error of %x: %v, %v", b, got, r.Err())
		}
	}
}

func TestGetBehindAnError(t *testing.T) {
	r := bin.NewReader(append(written(-1), put(api.Vec{1, 2})...))
	r.Text(5)
	if got := vect.Get(r); got != nil || r.Err() != api.ErrForm {
		t.Errorf("P8.1: Get: %v, %v", got, r.Err())
	}
}

func TestNoWriterAndNoReader(t *testing.T) {
	var w *bin.Writer
	vect.Put(w, nil)
	vect.Put(w, api.Vec{1, 2})
	if w.Bytes() != nil {
		t.Errorf("P8.1: Put: %x", w.Bytes())
	}
	if got := vect.Get(nil); got != nil {
		t.Errorf("P8.1: Get(nil): %v", got)
	}
}

func TestCopyIsTheSame(t *testing.T) {
	for _, v := range []api.Vec{nil, {}, {0}, {1, -2}, {math.MaxInt32, math.MinInt32}, filled(8, 1048576), filled(9, -7), filled(1000, 3)} {
		if got := vect.Copy(v); !slices.Equal(got, v) {
			t.Errorf("P8.1: Copy(%v): %v", v, got)
		}
	}
}

func TestCopySharesNothing(t *testing.T) {
	for count := range 10 {
		room := filled(count+4, 5)
		v := room[:count]
		one, two := vect.Copy(v), vect.Copy(v)
		overwrite(one)
		_ = append(one, 66, 66)
		if !slices.Equal(room, filled(count+4, 5)) || !slices.Equal(two, filled(count, 5)) {
			t.Errorf("P8.1: who writes into a copy of %d numbers writes %v, %v", count, room, two)
		}
		overwrite(v)
		if !slices.Equal(two, filled(count, 5)) {
			t.Errorf("P8.1: who writes into a vector of %d numbers changes its copy: %v", count, two)
		}
	}
}

func TestGetGivesNewMemory(t *testing.T) {
	b := written(2, 1, 2, 2, 3, 4)
	r := bin.NewReader(b)
	one := vect.Get(r)
	overwrite(one)
	_ = append(one, 66, 66)
	two := vect.Get(r)
	if !slices.Equal(two, api.Vec{3, 4}) || r.End() != api.OK {
		t.Errorf("P0.3: Get: %v, %v", two, r.End())
	}
	overwrite(two)
	if !bytes.Equal(b, written(2, 1, 2, 2, 3, 4)) || !slices.Equal(vect.Get(bin.NewReader(b)), api.Vec{1, 2}) {
		t.Error("P0.3: who writes into an answer changes what was read")
	}
}

func TestArgumentsAreNotChanged(t *testing.T) {
	room := api.Vec{1, 2, 3, 4}
	v := room[:2]
	vect.May(v, 2)
	vect.Eq(v, v)
	vect.Copy(v)
	var w bin.Writer
	vect.Put(&w, v)
	overwrite(v)
	if !bytes.Equal(w.Bytes(), []byte{1, 2, 1, 1, 1, 2}) {
		t.Errorf("P0.3: Put keeps what it is handed: %x", w.Bytes())
	}
	room = api.Vec{1, 2, 3, 4}
	v = room[:2]
	vect.May(v, 3)
	vect.Eq(v, room)
	vect.Put(&w, v)
	_ = append(vect.Copy(v), 9)
	if !slices.Equal(room, api.Vec{1, 2, 3, 4}) {
		t.Errorf("P0.3: %v", room)
	}
}

// TestPutAndGet draws vectors: what is put comes back, and what more than 8 numbers have does not.
func TestPutAndGet(t *testing.T) {
	draw := rand.New(rand.NewPCG(8, 1))
	for range 20000 {
		v := make(api.Vec, draw.IntN(12))
		for k := range v {
			v[k] = int32(draw.Uint32()) >> draw.IntN(32)
		}
		r := bin.NewReader(put(v))
		got := vect.Get(r)
		if len(v) > 8 {
			if got != nil || r.Err() != api.OK || r.Int() != int64(v[0]) {
				t.Fatalf("P8.1: Get of %v: %v, %v", v, got, r.Err())
			}
			continue
		}
		if got == nil || !slices.Equal(got, v) || r.End() != api.OK {
			t.Fatalf("P8.1: Get of %v: %v, %v", v, got, r.End())
		}
	}
}

// TestAnyBytes reads any bytes: what is taken, put anew, is what was read.
func TestAnyBytes(t *testing.T) {
	draw := rand.New(rand.NewPCG(8, 2))
	taken := 0
	for range 50000 {
		b := make([]byte, draw.IntN(30))
		for k := range b {
			// Small ones are likelier to be counts.
			b[k] = byte(draw.Uint32() & 0xff >> draw.IntN(8))
		}
		r := bin.NewReader(b)
		v := vect.Get(r)
		if v == nil {
			continue
		}
		taken++
		if r.Err() != api.OK || len(v) > 8 || !bytes.HasPrefix(b, put(v)) {
			t.Fatalf("P8.1: Get of %x: %v, %v", b, v, r.Err())
		}
	}
	if taken < 100 {
		t.Errorf("only %d of any bytes are taken", taken)
	}
}
