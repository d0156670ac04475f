package snap_test

import (
	"fmt"
	"math/rand/v2"
	"slices"
	"testing"

	"fieldfare/api"
	"fieldfare/dev"
	"fieldfare/snap"
	"fieldfare/wal"
)

// keeps gives ways in which n loose sectors may stay: all of them where they are few, else the plainest ones and some others.
func keeps(n int) [][]bool {
	if n <= 5 {
		all := make([][]bool, 1<<n)
		for k := range all {
			for bit := range n {
				all[k] = append(all[k], k>>bit&1 == 1)
			}
		}
		return all
	}
	some := [][]bool{nil, slices.Repeat([]bool{true}, n)}
	for k := range n {
		one, others := make([]bool, n), slices.Repeat([]bool{true}, n)
		one[k], others[k] = true, false
		some = append(some, one, others)
	}
	draw := rand.New(rand.NewPCG(63, uint64(n)))
	for range 8 {
		keep := make([]bool, n)
		for k := range keep {
			keep[k] = draw.IntN(2) == 0
		}
		some = append(some, keep)
	}
	return some
}

// start is a device with a log and perhaps a text, nothing loose, and what it holds.
type start struct {
	name string
	d    *dev.Dev
	want state
}

// laid gives a device on which texts of these lengths were put one behind the other, and then some records.
func laid(t *testing.T, sectors, records int, lengths ...int) start {
	t.Helper()
	d, l := made(t, sectors)
	s := start{name: fmt.Sprint(sectors, " sectors, texts ", lengths, ", records ", records), d: d}
	for k, n := range lengths {
		l.Append([]byte("x"))
		text := some(n, byte(50*k))
		wantErr(t, "Put", snap.Put(d, l, text), api.OK)
		s.want = state{next(s.want.area), text, 0}
	}
	for range records {
		l.Append([]byte("yy"))
		s.want.records++
	}
	wantState(t, s.name, d, l, s.want)
	return s
}

// starts gives devices of each sort: of no text, of one in either area, with a log behind it and without.
func starts(t *testing.T) []start {
	return []start{
		laid(t, 64, 0),
		laid(t, 64, 3),
		laid(t, 64, 0, 100),
		laid(t, 64, 2, 1024),
		laid(t, 64, 0, 1024, 1024),
		laid(t, 64, 1, 500, 0),
		laid(t, 64, 2, 1024, 65, 1000),
		laid(t, 67, 1, 1024, 1024, 1024, 700),
	}
}

// TestCrashWithinPut lets power go behind each number of calls of the device, with other sectors loose and without.
func TestCrashWithinPut(t *testing.T) {
	for _, s := range starts(t) {
		for _, n := range []int{0, 1, 64, 65, 300, 1024} {
			for _, loose := range [][]int{nil, {5, 30}} {
				crashes(t, s, some(n, 177), loose)
			}
		}
	}
}

// crashes goes through the crashes within a Put: behind each there is what was there, or the new text and an empty log; the latter for sure once it told OK.
func crashes(t *testing.T, s start, text []byte, loose []int) {
	t.Helper()
	of := fmt.Sprint("Put of ", len(text), " on ", s.name)
	want := state{area: next(s.want.area), text: text}
	for fuse := 0; ; fuse++ {
		if fuse > 60 {
			t.Fatalf("%s: does not end", of)
		}
		d := s.d.Crash()
		l, _, _ := wal.Open(d)
		for _, i := range loose {
			d.Write(i, whole(s.d)[64*i:64*i+64])
		}
		d.Fuse(fuse)
		e := snap.Put(d, l, text)
		if e != api.OK {
			wantErr(t, of, e, api.ErrDown)
			wantOver(t, of, d, l, s.want)
		}
		for _, keep := range keeps(len(d.Loose())) {
			c := d.Crash(keep...)
			got := told(c)
			if got != want.line() && (e == api.OK || got != s.want.line()) {
				t.Fatalf("P6.1: %s, a Fuse of %d, kept %v: %v, %s; it was %s", of, fuse, keep, e, got, s.want.line())
			}
			wantGoesOn(t, of, c)
		}
		if e == api.OK {
			return
		}
	}
}

// wantOver holds a log behind a Put that fell against one that tells of the elder text, and of ErrDown from now on.
func wantOver(t *testing.T, of string, d *dev.Dev, l *wal.Log, want state) {
	t.Helper()
	wantText(t, of+" fell", d, l, want.text)
	if area, length := l.Area(); area != want.area || length != int64(len(want.text)) {
		t.Errorf("P6.1: %s fell: Area %d, %d", of, area, length)
	}
	for _, n := range []int{0, 1024} {
		wantErr(t, of+" fell, Put again", snap.Put(d, l, some(n, 1)), api.ErrDown)
	}
	wantErr(t, of+" fell, Append", l.Append([]byte("x")), api.ErrDown)
	wantText(t, of+" fell, for good", d, l, want.text)
}

// wantGoesOn holds a device behind a crash against one that can be used.
func wantGoesOn(t *testing.T, of string, c *dev.Dev) {
	t.Helper()
	l, _, _ := wal.Open(c)
	area, _ := l.Area()
	for k, n := range []int{70, 1024, 3} {
		wantErr(t, "Append behind a crash", l.Append([]byte("z")), api.OK)
		wantErr(t, "Put behind a crash", snap.Put(c, l, some(n, byte(k))), api.OK)
		area = next(area)
		if got, want := told(c.Crash()), (state{area: area, text: some(n, byte(k))}).line(); got != want {
			t.Fatalf("P6.1: %s: a Put behind the crash: %s, not %s", of, got, want)
		}
	}
}

// TestCrashAgainAndAgain lets power go within one Put behind the other, each on what the last one left.
func TestCrashAgainAndAgain(t *testing.T) {
	draw := rand.New(rand.NewPCG(64, 65))
	for range 60 {
		d, l := made(t, 64)
		var was state
		for k := range 40 {
			if l.Append([]byte("x")) == api.OK {
				was.records++
			}
			now := state{area: next(was.area), text: some(draw.IntN(1025), byte(k))}
			d.Fuse(1 + draw.IntN(22))
			e := snap.Put(d, l, now.text)
			keep := keeps(len(d.Loose()))
			d = d.Crash(keep[draw.IntN(len(keep))]...)
			l, _, _ = wal.Open(d)
			switch got := told(d); {
			case got == now.line():
				was = now
			case e == api.OK || got != was.line():
				t.Fatalf("P6.1: step %d: %v, %s; it was %s", k, e, got, was.line())
			}
		}
	}
}

// TestGetOnlyReads: it wears no fuse, and what is loose stays so.
func TestGetOnlyReads(t *testing.T) {
	for _, s := range starts(t) {
		d := s.d.Crash()
		l, _, _ := wal.Open(d)
		d.Write(40, whole(s.d)[64*40:64*41])
		d.Fuse(1)
		for range 3 {
			wantText(t, s.name, d, l, s.want.text)
		}
		if d.Down() || !slices.Equal(d.Loose(), []int{40}) {
			t.Errorf("P6.1: Get on %s writes or flushes", s.name)
		}
	}
}

// TestLogOfAnotherDevice: a text that does not last is not told of, though the log's own device is up.
func TestLogOfAnotherDevice(t *testing.T) {
	for fuse := range 4 {
		d := dev.New(64)
		c, l := made(t, 64)
		l.Append([]byte("x"))
		d.Fuse(fuse)
		e := snap.Put(d, l, some(100, 1))
		if e == api.OK {
			wantText(t, "another device's log", d, l, some(100, 1))
			wantText(t, "a crash", d.Crash(), l, some(100, 1))
			if fuse != 3 {
				t.Errorf("P6.1: Put told OK with a Fuse of %d", fuse)
			}
			continue
		}
		wantErr(t, "Put while the device is down", e, api.ErrDown)
		wantState(t, "a Put that fell", c, l, state{records: 1})
	}
}
