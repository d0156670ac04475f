package wal_test

import (
	"bytes"
	"fmt"
	"math/rand/v2"
	"slices"
	"testing"

	"fieldfare/api"
	"fieldfare/dev"
	"fieldfare/slot"
	"fieldfare/wal"
)

// keeps gives ways in which n loose sectors may stay: all of them where they are few, else the plainest ones and some others.
func keeps(n int) [][]bool {
	if n <= 7 {
		all := make([][]bool, 1<<n)
		for k := range all {
			for bit := range n {
				all[k] = append(all[k], k>>bit&1 == 1)
			}
		}
		return all
	}
	some := [][]bool{nil, slices.Repeat([]bool{true}, n)}
	for k := range n {
		one, others := make([]bool, n), slices.Repeat([]bool{true}, n)
		one[k], others[k] = true, false
		some = append(some, one, others)
	}
	draw := rand.New(rand.NewPCG(31, uint64(n)))
	for range 20 {
		some = append(some, drawn(draw, n))
	}
	return some
}

// drawn gives a way by chance.
func drawn(draw *rand.Rand, n int) []bool {
	keep := make([]bool, n)
	for k := range keep {
		keep[k] = draw.IntN(2) == 0
	}
	return keep
}

// crashes goes through crashes within a call: power goes behind each number of calls of the device, and of the loose sectors stay some. Ahead of the call the sectors of loose are written. Behind each crash there is what was there, or what should be behind the call; the latter for sure once it told OK.
func crashes(t *testing.T, of string, start *dev.Dev, loose []int, call func(*dev.Dev) api.Errno, want string) {
	t.Helper()
	was := told(t, start)
	for fuse := 0; ; fuse++ {
		if fuse > 60 {
			t.Fatalf("%s: does not end", of)
		}
		d := start.Crash()
		for _, i := range loose {
			d.Write(i, filled(42))
		}
		d.Fuse(fuse)
		e := call(d)
		for _, keep := range keeps(len(d.Loose())) {
			c := d.Crash(keep...)
			got := told(t, c)
			if got != want && (e == api.OK || got != was) {
				t.Fatalf("V1: %s, a Fuse of %d, kept %v: %v, %s; it was %s", of, fuse, keep, e, got, was)
			}
			wantGoesOn(t, of, c)
		}
		if e == api.OK {
			return
		}
		wantErr(t, of, e, api.ErrDown)
	}
}

// wantGoesOn holds a device behind a crash against one that can be used.
func wantGoesOn(t *testing.T, of string, c *dev.Dev) {
	t.Helper()
	l, records, e := wal.Open(c)
	if e != api.OK {
		l, e = wal.Make(c)
		wantErr(t, "Make behind a crash", e, api.OK)
	}
	want := state{records: records}
	want.area, want.length = l.Area()
	if b := record(70, 200); l.Room() >= 72 {
		wantErr(t, "Append behind a crash", l.Append(b), api.OK)
		want = want.with(b)
	}
	if got := told(t, c.Crash()); got != want.text() {
		t.Fatalf("V1: %s: an Append behind the crash: %s, not %s", of, got, want.text())
	}
	wantErr(t, "Reset behind a crash", l.Reset(-3, -4), api.OK)
	b := record(130, 201)
	wantErr(t, "Append behind a crash", l.Append(b), api.OK)
	if got := told(t, c.Crash()); got != (state{area: -3, length: -4}).with(b).text() {
		t.Fatalf("V1: %s: a Reset behind the crash: %s", of, got)
	}
}

// start is a device with a log, nothing loose, and what that holds.
type start struct {
	name string
	d    *dev.Dev
	want state
}

// laid gives a log that begins behind some bytes of the ring and has records of these lengths.
func laid(t *testing.T, name string, ahead int, lengths ...int) start {
	t.Helper()
	d, l := made(t, 64)
	for n := ahead; n > 0; n -= 1002 {
		wantErr(t, "Append", l.Append(record(min(n, 1002)-2, 111)), api.OK)
		wantErr(t, "Reset", l.Reset(1, int64(ahead)), api.OK)
	}
	s := start{name, d, state{}}
	s.want.area, s.want.length = l.Area()
	for k, n := range lengths {
		b := record(n, byte(10*k))
		wantErr(t, "Append", l.Append(b), api.OK)
		s.want = s.want.with(b)
	}
	if got := told(t, d.Crash()); got != s.want.text() {
		t.Fatalf("P5.1: %s: %s", name, got)
	}
	return s
}

// starts gives logs of each sort.
func starts(t *testing.T) []start {
	return []start{
		laid(t, "empty", 0),
		laid(t, "empty, further on", 777),
		laid(t, "one", 0, 1),
		laid(t, "to the end of a sector", 0, 62),
		laid(t, "to one byte ahead of it", 0, 61),
		laid(t, "several", 100, 3, 80, 1, 200),
		laid(t, "ahead of the end of the ring", 1900),
		laid(t, "over the end of the ring", 1900, 40, 50),
		laid(t, "nearly full, in one sector with its beginning", 1000, 1000, 800, 100),
		laid(t, "full", 1500, 1000, 914),
	}
}

func TestCrashWithinAppend(t *testing.T) {
	for _, s := range starts(t) {
		for _, n := range []int{1, 12, 60, 61, 62, 63, 64, 130, 300, 1000} {
			b := record(n, 99)
			if 2+n > ringSize(s.d)-s.want.taken() {
				continue
			}
			for _, loose := range [][]int{nil, {40, 63}} {
				crashes(t, fmt.Sprint("Append of ", n, " to: ", s.name), s.d, loose, func(d *dev.Dev) api.Errno {
					l, _, _ := wal.Open(d)
					e := l.Append(b)
					if e != api.OK {
						wantOver(t, d, l, s.want)
					}
					return e
				}, s.want.with(b).text())
			}
		}
	}
}

// wantOver holds a log behind an error of its device against one that is over for good and stands as ahead of it.
func wantOver(t *testing.T, d *dev.Dev, l *wal.Log, want state) {
	t.Helper()
	for range 2 {
		for _, n := range []int{0, 1, 1000, 1001} {
			wantErr(t, "Append for good", l.Append(record(n, 1)), api.ErrDown)
		}
		wantErr(t, "Reset for good", l.Reset(8, 9), api.ErrDown)
		wantTells(t, "for good", d, l, want)
	}
}

func TestCrashWithinReset(t *testing.T) {
	for _, s := range starts(t) {
		for _, loose := range [][]int{nil, {40, 63}} {
			crashes(t, "Reset of: "+s.name, s.d, loose, func(d *dev.Dev) api.Errno {
				l, _, _ := wal.Open(d)
				e := l.Reset(5, -6)
				if e != api.OK {
					wantOver(t, d, l, s.want)
				}
				return e
			}, state{area: 5, length: -6}.text())
		}
	}
}

// used gives devices of each sort on which a Make may find itself, nothing loose.
func used(t *testing.T) []start {
	all := append(starts(t), start{name: "noughts", d: dev.New(64)})
	for _, x := range []byte{1, 8, 9, 255} {
		d := dev.New(64)
		for i := range 64 {
			d.Write(i, filled(x))
		}
		d.Flush()
		all = append(all, start{name: fmt.Sprint("all ", x), d: d})
	}
	for _, ns := range [][]int64{nil, {7}, {-1, -1, -1, -1}} {
		d := dev.New(64)
		slot.Make(d, ns...)
		all = append(all, start{name: fmt.Sprint("slots ", ns), d: d})
	}
	// An Append that a crash cut off, some of its sectors there.
	for fuse := range 6 {
		s := laid(t, "", 1800, 100, 30)
		l, _, _ := wal.Open(s.d)
		s.d.Fuse(fuse)
		l.Append(record(200, 77))
		all = append(all, start{name: fmt.Sprint("cut off behind ", fuse), d: s.d.Crash(false, true, false, true)})
	}
	return all
}

func TestMakeOnWhatWasUsed(t *testing.T) {
	for _, s := range used(t) {
		d := s.d.Crash()
		l, e := wal.Make(d)
		wantErr(t, "Make on "+s.name, e, api.OK)
		wantState(t, "Make on "+s.name, d, l, state{})
		want := state{}
		for k, n := range []int{1000, 700, 210, 2} {
			b := record(n, byte(k))
			wantErr(t, "Append", l.Append(b), api.OK)
			want = want.with(b)
			wantState(t, "Append on "+s.name, d, l, want)
		}
	}
}

func TestCrashWithinMake(t *testing.T) {
	for _, s := range used(t) {
		for _, loose := range [][]int{nil, {40, 63}} {
			crashes(t, "Make on "+s.name, s.d, loose, func(d *dev.Dev) api.Errno {
				l, e := wal.Make(d)
				if (l == nil) != (e != api.OK) {
					t.Errorf("P0.2: Make: %v, %v", l, e)
				}
				return e
			}, state{}.text())
		}
	}
}

// TestCrashWithinOpen: an Open does not wear the fuse, and leaves what is loose as it is.
func TestCrashWithinOpen(t *testing.T) {
	for _, s := range starts(t) {
		for fuse := range 4 {
			d := s.d.Crash()
			d.Write(40, filled(1))
			d.Write(20, filled(2))
			d.Write(20, sectorOf(s.d, 20))
			d.Fuse(fuse)
			for range 4 {
				if got := told(t, d); got != s.want.text() {
					t.Errorf("V1: Open with a Fuse of %d of: %s: %s", fuse, s.name, got)
				}
			}
			if d.Down() != (fuse == 0) || !slices.Equal(d.Loose(), []int{20, 40}) {
				t.Errorf("V1: Open of: %s: writes or flushes", s.name)
			}
			for _, keep := range keeps(2) {
				if got := told(t, d.Crash(keep...)); got != s.want.text() {
					t.Errorf("V1: a crash within an Open of: %s: %s", s.name, got)
				}
			}
		}
	}
}

// TestCrashWithinOpenBehindACrash opens, and lets power go, again and again where a crash cut off an Append or a Reset.
func TestCrashWithinOpenBehindACrash(t *testing.T) {
	for _, s := range used(t) {
		want := told(t, s.d)
		d := s.d
		for fuse := range 4 {
			d.Fuse(fuse)
			if got := told(t, d); got != want {
				t.Errorf("V1: Open of %s: %s, not %s", s.name, got, want)
			}
			d = d.Crash(true, true)
		}
		for i := range 64 {
			if !bytes.Equal(sectorOf(d, i), sectorOf(s.d, i)) {
				t.Errorf("V1: Open of %s: the sector %d is another", s.name, i)
			}
		}
	}
}

// sectorOf gives a sector.
func sectorOf(d *dev.Dev, i int) []byte {
	b, _ := d.Read(i)
	return b
}

func TestWhileTheDeviceIsDown(t *testing.T) {
	for _, s := range starts(t) {
		d := s.d.Crash()
		d.Fuse(0)
		if l, e := wal.Make(d); l != nil || e != api.ErrDown {
			t.Errorf("P5.1: Make while it is down: %v, %v", l, e)
		}
		l, _, e := wal.Open(d)
		wantErr(t, "Open while it is down", e, api.OK)
		wantTells(t, "while it is down", d, l, s.want)
		// The form and the room are named ahead of the device, which told no error as yet.
		wantErr(t, "Append of none while it is down", l.Append(nil), api.ErrForm)
		wantErr(t, "Append of too many while it is down", l.Append(record(1001, 1)), api.ErrForm)
		if l.Room() < 1002 {
			wantErr(t, "Append without room while it is down", l.Append(record(1000, 1)), api.ErrFull)
		}
		if l.Room() > 2 {
			wantErr(t, "Append while it is down", l.Append(record(1, 1)), api.ErrDown)
		} else {
			wantErr(t, "Reset while it is down", l.Reset(1, 1), api.ErrDown)
		}
		wantOver(t, d, l, s.want)
		if got := told(t, d); got != s.want.text() {
			t.Errorf("P5.1: while it is down: %s", got)
		}
	}
}

// TestErrorIsForGoodOnADeviceThatIsUpAgain puts another device in the place of the one that went down.
func TestErrorIsForGoodOnADeviceThatIsUpAgain(t *testing.T) {
	for _, call := range []func(*wal.Log) api.Errno{
		func(l *wal.Log) api.Errno { return l.Append(record(5, 5)) },
		func(l *wal.Log) api.Errno { return l.Reset(6, 6) },
	} {
		d, l := made(t, 64)
		l.Append(record(4, 4))
		c := d.Crash()
		d.Fuse(1)
		wantErr(t, "a call that falls", call(l), api.ErrDown)
		*d = *c
		wantOver(t, d, l, state{}.with(record(4, 4)))
		if got := told(t, d); got != (state{}).with(record(4, 4)).text() {
			t.Errorf("P5.1: for good: %s", got)
		}
	}
}

// TestNoPanicWhenTheDeviceIsAnother takes the sectors away from under a log.
func TestNoPanicWhenTheDeviceIsAnother(t *testing.T) {
	d, l := made(t, 64)
	l.Append(record(4, 4))
	*d = dev.Dev{}
	l.Room()
	l.Area()
	if l.Append(record(4, 4)) == api.OK || l.Reset(1, 1) == api.OK {
		t.Error("P5.1: on no sectors")
	}
	wantErr(t, "Append for good", l.Append(record(4, 4)), api.ErrDown)
}

// TestCrashBehindCrash lets power go again and again, within whatever a log may be told.
func TestCrashBehindCrash(t *testing.T) {
	draw := rand.New(rand.NewPCG(33, 34))
	for range 150 {
		d, l := made(t, []int{64, 65, 70}[draw.IntN(3)])
		var was state
		for k := range 60 {
			if draw.IntN(3) == 0 {
				d.Fuse(draw.IntN(12))
			}
			next, e := tell(draw, d, &l, was, byte(k))
			if e == api.OK {
				was = next
			}
			if e != api.ErrDown && draw.IntN(5) != 0 {
				continue
			}
			d = d.Crash(drawn(draw, 20)...)
			got := told(t, d)
			if got != was.text() && (e != api.ErrDown || got != next.text()) {
				t.Fatalf("V1: %v, %s, neither %s nor %s", e, got, was.text(), next.text())
			}
			if got == next.text() {
				was = next
			}
			l, _, _ = wal.Open(d)
		}
	}
}

// tell makes one call by chance, and gives the state that should be behind it.
func tell(draw *rand.Rand, d *dev.Dev, l **wal.Log, was state, x byte) (state, api.Errno) {
	switch draw.IntN(20) {
	case 0:
		m, e := wal.Make(d)
		if e == api.OK {
			*l = m
		}
		return state{}, e
	case 1, 2, 3:
		return state{area: int64(x), length: 3}, (*l).Reset(int64(x), 3)
	}
	b := record(1+draw.IntN(300), x)
	return was.with(b), (*l).Append(b)
}
