package bin_test

import (
	"bytes"
	"math"
	"math/rand/v2"
	"strings"
	"testing"

	"fieldfare/api"
	"fieldfare/bin"
)

// written gives the bytes of some numbers.
func written(ns ...int64) []byte {
	var w bin.Writer
	w.Int(ns...)
	return w.Bytes()
}

// plain gives the bytes of a number the long way: the first count from which division gives it back.
func plain(n int64) []byte {
	for count := 0; ; count++ {
		b := []byte{byte(count)}
		rest := n
		for range count {
			low := ((rest % 256) + 256) % 256
			b = append(b, byte(low))
			rest = floor256(rest)
		}
		negative := count > 0 && b[count] >= 128
		if rest == 0 && !negative || rest == -1 && negative {
			return b
		}
	}
}

// floor256 is n / 256, rounded down.
func floor256(n int64) int64 {
	if n%256 < 0 {
		return n/256 - 1
	}
	return n / 256
}

// edges gives the numbers around each power of two, of both signs.
func edges() []int64 {
	ns := []int64{math.MaxInt64, math.MaxInt64 - 1, math.MinInt64, math.MinInt64 + 1}
	for k := range 63 {
		p := int64(1) << k
		ns = append(ns, p-1, p, p+1, -p-1, -p, -p+1)
	}
	return ns
}

// wantFailed holds a reader against one that has its first error behind it.
func wantFailed(t *testing.T, of string, r *bin.Reader) {
	t.Helper()
	for range 2 {
		if r.Err() != api.ErrForm || r.End() != api.ErrForm {
			t.Errorf("%s: Err %v, End %v", of, r.Err(), r.End())
		}
		if n, s := r.Int(), r.Text(math.MaxInt); n != 0 || s != "" {
			t.Errorf("%s: behind the error %d, %q", of, n, s)
		}
	}
}

func TestIntWritesTheLeastBytes(t *testing.T) {
	for _, x := range []struct {
		n    int64
		want []byte
	}{
		{0, []byte{0}},
		{1, []byte{1, 1}},
		{-1, []byte{1, 0xff}},
		{127, []byte{1, 0x7f}},
		{128, []byte{2, 0x80, 0}},
		{-128, []byte{1, 0x80}},
		{-129, []byte{2, 0x7f, 0xff}},
		{-300, []byte{2, 0xd4, 0xfe}},
		{0x0102030405, []byte{5, 5, 4, 3, 2, 1}},
		{math.MaxInt64, []byte{8, 0xff, 0xff, 0xff, 0xff, 0xff, 0xff, 0xff, 0x7f}},
		{math.MinInt64, []byte{8, 0, 0, 0, 0, 0, 0, 0, 0x80}},
	} {
		if got := written(x.n); !bytes.Equal(got, x.want) {
			t.Errorf("Int(%d): %x, not %x", x.n, got, x.want)
		}
	}
}

func TestIntAgainstThePlainWay(t *testing.T) {
	ns := edges()
	draw := rand.New(rand.NewPCG(3, 4))
	for range 20000 {
		ns = append(ns, int64(draw.Uint64())>>draw.IntN(64))
	}
	for _, n := range ns {
		b := written(n)
		if want := plain(n); !bytes.Equal(b, want) {
			t.Fatalf("Int(%d): %x, not %x", n, b, want)
		}
		r := bin.NewReader(b)
		if got := r.Int(); got != n || r.Err() != api.OK || r.End() != api.OK {
			t.Fatalf("Int back: %d, not %d; %v, %v", got, n, r.Err(), r.End())
		}
	}
}

func TestIntWritesEachInOrder(t *testing.T) {
	ns := edges()
	var each, all bin.Writer
	all.Int(ns...)
	for _, n := range ns {
		each.Int(n)
	}
	all.Int()
	if !bytes.Equal(each.Bytes(), all.Bytes()) {
		t.Error("one by one is not all at once")
	}
	r := bin.NewReader(all.Bytes())
	for _, n := range ns {
		if got := r.Int(); got != n {
			t.Fatalf("Int: %d, not %d", got, n)
		}
	}
	if r.End() != api.OK {
		t.Errorf("End: %v", r.End())
	}
}

func TestZeroWriterIsEmpty(t *testing.T) {
	var w bin.Writer
	w.Int()
	if len(w.Bytes()) != 0 {
		t.Errorf("Bytes: %x", w.Bytes())
	}
}

// TestReaderTakesOneFormAlone goes through all numbers of up to two bytes: what is taken is what is written.
func TestReaderTakesOneFormAlone(t *testing.T) {
	taken := 0
	for k := range 1 + 256 + 65536 {
		b := []byte{0}
		if k >= 1 && k < 257 {
			b = []byte{1, byte(k - 1)}
		} else if k >= 257 {
			b = []byte{2, byte((k - 257) % 256), byte((k - 257) / 256)}
		}
		r := bin.NewReader(b)
		n := r.Int()
		if r.Err() == api.OK {
			taken++
			if !bytes.Equal(b, plain(n)) {
				t.Fatalf("%x is taken for %d", b, n)
			}
			continue
		}
		if n != 0 || r.Err() != api.ErrForm {
			t.Fatalf("%x: %d, %v", b, n, r.Err())
		}
	}
	if taken != 65536 {
		t.Errorf("%d are taken, not each number of 16 bits once", taken)
	}
}

func TestReaderOfMoreThanTheLeast(t *testing.T) {
	for _, n := range append(edges(), 0) {
		b := plain(n)
		fill := byte(0)
		if n < 0 {
			fill = 0xff
		}
		for count := len(b); count <= 8; count++ {
			b[0] = byte(count)
			b = append(b, fill)
			r := bin.NewReader(append(bytes.Clone(b), 0))
			if got := r.Int(); got != 0 {
				t.Errorf("%x: %d", b, got)
			}
			wantFailed(t, "more than the least", r)
		}
	}
}

func TestReaderOfFewerBytes(t *testing.T) {
	for _, n := range append(edges(), 0) {
		b := written(n)
		for k := range len(b) {
			// The bytes that are missing stand in the spare room.
			r := bin.NewReader(b[:k])
			if got := r.Int(); got != 0 {
				t.Errorf("%x of %x: %d", b[:k], b, got)
			}
			wantFailed(t, "fewer bytes", r)
		}
	}
}

func TestReaderOfACountAboveEight(t *testing.T) {
	for count := 9; count < 256; count++ {
		r := bin.NewReader(append([]byte{byte(count)}, bytes.Repeat([]byte{1}, 300)...))
		if got := r.Int(); got != 0 {
			t.Errorf("%d: %d", count, got)
		}
		wantFailed(t, "count", r)
	}
}

func TestTheFirstErrorIsForGood(t *testing.T) {
	// What stands behind the wrong number would be right ones.
	for _, wrong := range [][]byte{{9}, {1, 0}, {2, 5, 0}, {0xff}} {
		b := append(written(7), wrong...)
		b = append(b, written(0, 1, 2)...)
		r := bin.NewReader(b)
		if n := r.Int(); n != 7 || r.Err() != api.OK || r.End() != api.ErrForm {
			t.Errorf("ahead of it: %d, %v, %v", n, r.Err(), r.End())
		}
		if n := r.Int(); n != 0 {
			t.Errorf("%x: %d", wrong, n)
		}
		wantFailed(t, "first error", r)
	}
}

func TestEndIsNoErrorForGood(t *testing.T) {
	r := bin.NewReader(written(4, 0))
	if r.End() != api.ErrForm || r.Err() != api.OK || r.Int() != 4 {
		t.Error("End at the beginning")
	}
	if r.End() != api.ErrForm || r.Err() != api.OK || r.Int() != 0 {
		t.Error("End ahead of a nought")
	}
	if r.End() != api.OK || r.Err() != api.OK {
		t.Error("End at the end")
	}
}

func TestEmptyReader(t *testing.T) {
	for _, b := range [][]byte{nil, {}, written(1)[:0]} {
		r := bin.NewReader(b)
		if r == nil || r.Err() != api.OK || r.End() != api.OK {
			t.Errorf("of %v", b)
		}
		if r.Int() != 0 {
			t.Error("Int of nothing")
		}
		wantFailed(t, "Int of nothing", r)
		r = bin.NewReader(b)
		if r.Text(5) != "" {
			t.Error("Text of nothing")
		}
		wantFailed(t, "Text of nothing", r)
	}
}

func TestTextIsItsLengthAndItsBytes(t *testing.T) {
	for _, n := range []int{0, 1, 127, 128, 255, 256, 32767, 32768, 100000} {
		s := strings.Repeat("z", n)
		var w bin.Writer
		w.Text(s)
		w.Int(-6)
		want := append(append(plain(int64(n)), s...), 1, 0xfa)
		if !bytes.Equal(w.Bytes(), want) {
			t.Errorf("Text of %d bytes", n)
		}
		r := bin.NewReader(w.Bytes())
		if r.Text(n) != s || r.Err() != api.OK || r.End() != api.ErrForm || r.Int() != -6 || r.End() != api.OK {
			t.Errorf("Text back of %d bytes", n)
		}
	}
}

func TestTextKeepsAnyByte(t *testing.T) {
	var every []byte
	for k := range 256 {
		every = append(every, byte(k))
	}
	for _, s := range []string{string(every), "\x00", "\xff\xfe", "wacholderdrossel", "ä€", "\xe2\x82"} {
		var w bin.Writer
		w.Text(s)
		r := bin.NewReader(w.Bytes())
		if got := r.Text(256); got != s || r.End() != api.OK {
			t.Errorf("%q, not %q", got, s)
		}
	}
}

func TestTextOfAtMost(t *testing.T) {
	var w bin.Writer
	w.Text("abc")
	w.Text("")
	for _, x := range []struct {
		most int
		want string
	}{{3, "abc"}, {4, "abc"}, {math.MaxInt, "abc"}, {2, ""}, {0, ""}, {-1, ""}, {math.MinInt, ""}} {
		r := bin.NewReader(w.Bytes())
		if got := r.Text(x.most); got != x.want {
			t.Errorf("Text(%d): %q, not %q", x.most, got, x.want)
		}
		if x.want == "" {
			wantFailed(t, "a longer text", r)
		} else if r.Text(0) != "" || r.End() != api.OK {
			t.Errorf("Text(%d): behind it", x.most)
		}
	}
	for _, most := range []int{-1, math.MinInt} {
		r := bin.NewReader(written(0))
		if r.Text(most) != "" {
			t.Error("an empty text")
		}
		wantFailed(t, "an empty text above most", r)
	}
}

func TestTextThatCantBe(t *testing.T) {
	for name, b := range map[string][]byte{
		"length below 0":      append(written(-1), "abc"...),
		"least length":        append(written(math.MinInt64), "abc"...),
		"greatest length":     append(written(math.MaxInt64), "abc"...),
		"a byte too few":      append(written(4), "abc"...),
		"no byte":             written(1),
		"length in two forms": {2, 1, 0, 'a'},
		"length cut off":      {2, 1},
		"count above 8":       {9, 1, 0, 0, 0, 0, 0, 0, 0, 0, 'a'},
		"spare room":          append(written(4), "abcd"...)[:5],
	} {
		r := bin.NewReader(b)
		if got := r.Text(math.MaxInt); got != "" {
			t.Errorf("%s: %q", name, got)
		}
		wantFailed(t, name, r)
	}
}

func TestListsAreNotShared(t *testing.T) {
	ns := []int64{1, 2, 3}
	var w bin.Writer
	w.Int(ns[:2]...)
	if ns[0] != 1 || ns[1] != 2 || ns[2] != 3 {
		t.Error("Int changes what it is handed")
	}
	ns[0] = 9
	one, two := w.Bytes(), w.Bytes()
	for k := range one[:cap(one)] {
		one[:cap(one)][k] = 99
	}
	w.Int(3)
	if !bytes.Equal(two, []byte{1, 1, 1, 2}) || !bytes.Equal(w.Bytes(), []byte{1, 1, 1, 2, 1, 3}) {
		t.Errorf("Bytes: %x, %x", two, w.Bytes())
	}
	// The room behind an answer is not where the writer goes on.
	_ = append(two, 77, 77)
	w.Int(4)
	if !bytes.Equal(w.Bytes(), []byte{1, 1, 1, 2, 1, 3, 1, 4}) {
		t.Errorf("Bytes: %x", w.Bytes())
	}

	room := []byte{1, 5, 1, 1, 'a', 1, 6}
	r := bin.NewReader(room[:5])
	room[1], room[4] = 7, 'b'
	if r.Int() != 5 || r.Text(1) != "a" || r.End() != api.OK {
		t.Error("NewReader keeps what it is handed")
	}
	if !bytes.Equal(room, []byte{1, 7, 1, 1, 'b', 1, 6}) {
		t.Error("a reader changes what it is handed")
	}
}

func TestReadersAreApart(t *testing.T) {
	b := written(1, 2)
	one, two := bin.NewReader(b), bin.NewReader(b)
	one.Int()
	one.Text(0)
	wantFailed(t, "one", one)
	if two.Int() != 1 || two.Int() != 2 || two.End() != api.OK {
		t.Error("a reader reads on where another one ended")
	}
}

func TestNoWriterAndNoReader(t *testing.T) {
	var w *bin.Writer
	w.Int()
	w.Int(1, 2)
	w.Text("x")
	if w.Bytes() != nil {
		t.Errorf("Bytes: %x", w.Bytes())
	}
	var r *bin.Reader
	wantFailed(t, "nil", r)
	if r.Text(-1) != "" || r.Text(math.MinInt) != "" {
		t.Error("Text of a nil reader")
	}
}

// TestAnyBytes reads any bytes as numbers and texts: what was taken, written anew, is what was read.
func TestAnyBytes(t *testing.T) {
	draw := rand.New(rand.NewPCG(5, 6))
	for range 20000 {
		b := make([]byte, draw.IntN(40))
		for k := range b {
			// Small ones are likelier to be counts.
			b[k] = byte(draw.Uint32() >> draw.IntN(8) & 0xff >> draw.IntN(8))
		}
		var w bin.Writer
		r := bin.NewReader(b)
		for r.Err() == api.OK && r.End() != api.OK {
			if draw.IntN(2) == 0 {
				if n := r.Int(); r.Err() == api.OK {
					w.Int(n)
				}
			} else if s := r.Text(20); r.Err() == api.OK {
				w.Text(s)
			}
		}
		if !bytes.HasPrefix(b, w.Bytes()) || r.End() == api.OK && !bytes.Equal(b, w.Bytes()) {
			t.Fatalf("%x, read from %x", w.Bytes(), b)
		}
	}
}
